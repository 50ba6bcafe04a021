/- For every row of points and every small number: a thing that is set elsewhere is found there, and no longer where it was; off the map it is refused and stays. No conditions. -/
import Derived.Test.YtildhbkcpehobaaDoorKnown9
import Derived.Test.YtildhbkcpehobaaDoorTbO
import Derived.Test.YtildhbkcpehobaaDoorLaid
import Derived.Test.YtildhbkcpehobaaDoorCards
import Derived.Test.YtildhbkcpehobaaDoorTie
import Derived.SevenTiedAt
import Derived.ProofKit
import Derived.OpenShut
import Derived.ShutString
import Derived.ChangeOld
import Derived.Below
import Derived.SizedLaws
namespace Go.Proofs.YtildhbkcpehobaaDoor
open Go.ChangeShapes Go.WideShapes Go.ChangeAt Go.RowKit
open Go.ChangeMaps (open_string shut_string)
set_option linter.unusedVariables false

theorem in_one (id x y : Int) : inT_r ⟨x, y, x + 1, y + 1⟩ [thN id x y] = [thN id x y] := by
  unfold inT_r
  rw [List.filter_cons, if_pos (by simp [inB]; omega)]
  rfl
theorem in_old {id x y a b : Int} (h : ¬ (a = x ∧ b = y)) : inT_r ⟨x, y, x + 1, y + 1⟩ [thN id a b] = [] := by
  unfold inT_r
  rw [List.filter_cons, if_neg (by simp [inB]; omega)]
  rfl
theorem isT_small {m : Nat} (hm : m < 256) {a b : Int} : isT (thN (m : Int) a b) = onB a b := by
  have e : isF ⟨0, ⟨#[]⟩⟩ = true := by decide +kernel
  rw [isT_eq]
  simp only [e, Bool.and_true]
  rw [decide_eq_true (by show (0 : Int) ≤ (m : Int); omega), decide_eq_true (by show (m : Int) ≤ 1000000; omega)]
  simp
theorem set_on {m : Nat} (hm : m < 256) {x y a b : Int} (h : onB a b = true) : tsE (thN (m : Int) a b) [thN (m : Int) x y] = 0 ∧ tsL (thN (m : Int) a b) [thN (m : Int) x y] = [thN (m : Int) a b] := by
  have e : tsE (thN (m : Int) a b) [thN (m : Int) x y] = 0 := by
    unfold tsE
    rw [if_neg (by rw [isT_small hm, h]; simp), if_neg (by simp [hasT])]
  refine ⟨e, ?_⟩
  unfold tsL
  rw [if_pos e]
  simp [witT, outT, insT]
theorem set_not {m : Nat} (hm : m < 256) {x y a b : Int} (h : onB a b = false) : tsE (thN (m : Int) a b) [thN (m : Int) x y] = 11 ∧ tsL (thN (m : Int) a b) [thN (m : Int) x y] = [thN (m : Int) x y] := by
  have e : tsE (thN (m : Int) a b) [thN (m : Int) x y] = 11 := by
    unfold tsE
    rw [if_pos (by rw [isT_small hm, h])]
  refine ⟨e, ?_⟩
  unfold tsL
  rw [e]
  rfl
theorem put_first {m : Nat} (hm : m < 256) : tpE (thN (m : Int) 0 0) [] = 0 ∧ tpL (thN (m : Int) 0 0) [] = [thN (m : Int) 0 0] := by
  have e : tpE (thN (m : Int) 0 0) [] = 0 := tpE_ok (by rw [isT_small hm]; decide) rfl (by decide)
  refine ⟨e, ?_⟩
  unfold tpL
  rw [if_pos e]
  rfl
theorem TK.off {W0 w w' : World} {tb : Nat} {L : List Th} {K : List Nat} (h : TK W0 w tb L K) {g : Nat} (ho : Off [g] w w') (hg : g ∈ K) (hl : W0.heap.size ≤ g) : TK W0 w' tb L K := by
  obtain ⟨X, h1, h2⟩ := h.has
  exact ⟨X, h1.off ho (fun k hk hm => by simp at hm; subst hm; exact (h2 k hg).2 hk) (fun k hk => by simp at hk; subst hk; exact hl), fun k hk => ⟨Nat.lt_of_lt_of_le (h2 k hk).1 ho.size, (h2 k hk).2⟩⟩
theorem off_set2 (W : World) (g i j : Nat) (u0 u1 : Value) : Off [g] W ((W.setCell ⟨g, i, none⟩ u0).setCell ⟨g, j, none⟩ u1) :=
  ⟨rfl, rfl, rfl, by simp, fun k hk hx => by
    have hne : k ≠ g := fun e => hx (by rw [e]; exact List.mem_singleton.2 rfl)
    rw [Below.heap_setCell _ _ _ _ hne, Below.heap_setCell _ _ _ _ hne]⟩
theorem set_two {W : World} {g : Nat} {id x y a b : Int} (h : W.heap[g]? = some (thN id x y).o) : ((W.setCell ⟨g, 1, none⟩ (.int .i64 a)).setCell ⟨g, 2, none⟩ (.int .i64 b)).heap[g]? = some (thN id a b).o :=
  set_at (set_at h (.int .i64 a) rfl) (.int .i64 b) rfl
theorem equal_pt_at {a0 a1 b0 b1 : Int} {q : Bool} (h : pEq a0 a1 b0 b1 = q) (W : World) : (Op.equalIn 10000 29 (pt a0 a1) (pt b0 b1)).run Tryd.prog W = .ok q W := by rw [equal_pt, h]
theorem TK.one {W0 w : World} {tb : Nat} {L : List Th} {g h : Nat} (k : TK W0 w tb L [g, h]) : TK W0 w tb L [h] := by
  obtain ⟨X, h1, h2⟩ := k.has
  exact ⟨X, h1, fun x hx => h2 x (List.mem_cons_of_mem _ hx)⟩
set_option maxRecDepth 100000 in
set_option maxHeartbeats 4000000 in
theorem tableMoves_walk (w : World) (hL : Masks w) (a0 : Option Addr) (cap0 : Nat) (L0 : List Pt) (r0 : RowG Pt.cs 2 w a0 L0) (c0 : L0.length ≤ cap0) (m0 : cap0 ≤ maxLen) (a1 : Int) (w1 : (Lit.int .u8 a1).wf = true) :
    Calls Tryd.prog 4 #[.slice a0 L0.length cap0, .int .u8 a1] w fun e w' => e = .returned (.bool true) ∧ Below w.heap.size w w' := by
  obtain ⟨m, rfl, hm⟩ := nat_u8 w1
  obtain ⟨n, hn⟩ : ∃ n, Hid (L0.length = n) := ⟨_, rfl⟩
  rw [hn.out] at c0 ⊢
  have hcm : n ≤ 9223372036854775807 := by unfold maxLen at m0; omega
  clear w1 c0 m0
  have CK := known9 w hL
  have HM := hid hL
  have HR := hid r0
  clear hL r0
  go_enter Tryd.func4, Tryd.ntmps4
  go_wp2_with fail
  refine CK.mono ?_
  rintro z W0 ⟨rfl, hb0⟩
  have HM0 := hid (HM.out.below hb0)
  have HR0 := hid (HR.out.later hb0)
  clear CK HM HR
  by_cases hbig : 30 < n
  · have hbig' : (30 : Int) < (n : Int) := by omega
    go_wp2_with fail
    go_ret
    exact ⟨rfl, hb0⟩
  · have hbig' : ¬ (30 : Int) < (n : Int) := by omega
    go_wp2_with fail
    with_reducible refine (tk_new HM0.out).mono ?_
    rintro z W1 ⟨tb, rfl, T1⟩
    clear HM0
    obtain ⟨W2, hW2⟩ : ∃ W2, W1.alloc (thN (m : Int) 0 0).o = W2 := ⟨_, rfl⟩
    have T2 : TK W0 W2 tb [] [W1.heap.size] := by rw [← hW2]; exact T1.also (below1 _ _) (Nat.le_refl _) (by simp)
    have K2 := hid (show W2.heap[W1.heap.size]? = some (thN (m : Int) 0 0).o by rw [← hW2]; exact new_at _ _ _ rfl)
    have hlo : Hid (W0.heap.size ≤ W1.heap.size) := T1.below.size
    clear T1
    unfold Th.o at hW2
    simp only at hW2
    have HW2 := hid hW2
    clear hW2
    go_upto_region 7 with fail
    rw [HW2.out]
    clear HW2
    obtain ⟨xb, hxb⟩ : ∃ xb, W1.heap.size = xb := ⟨_, rfl⟩
    rw [hxb] at T2 K2 hlo ⊢
    clear hxb
    obtain ⟨f1, f2⟩ := put_first hm
    have C2 := tk_put T2 (thN_in _ _ _) (hid f1) (hid f2)
    clear f1 f2
    have c := cells_at K2.out
    go_wp2_with fail
    with_reducible refine C2.mono ?_
    rintro z W3 ⟨rfl, T3, hK⟩
    have K3 := hid (hK.at (g := xb) (by simp) K2.out)
    clear hK T2 K2 c C2
    go_wp2_with fail
    go_loopw [7] (fun s7 wr => ∃ (k : Nat) (x y : Int), k ≤ n ∧ s7 = .int .i64 (k : Nat) ∧ Hid (onB x y = true) ∧ TK W0 wr tb [thN (m : Int) x y] [xb] ∧ Hid (wr.heap[xb]? = some (thN (m : Int) x y).o)) (fun s7 _ => n - (intOf s7).toNat)
    case atStart => exact ⟨0, 0, 0, by omega, rfl, (by show onB 0 0 = true; decide), T3, K3⟩
    case round =>
      obtain ⟨k, x, y, hk, rfl, hon, T, K⟩ := hrel
      clear T3 K3
      by_cases hlt : k < n
      · have hlt' : (k : Int) < (n : Int) := by omega
        obtain ⟨⟨a, b⟩, hp⟩ := get_some L0 k (by rw [hn.out]; exact hlt)
        obtain ⟨bl, off, rfl, hc1, hc2⟩ := pt_at (HR0.out.later T.below) hp
        simp only at hc1 hc2
        have hne : Hid (bl ≠ xb) := fun e => by
          have h1 : bl < W0.heap.size := by
            obtain ⟨bl', off', e', hcc⟩ := HR0.out.at hp
            simp only [Option.some.injEq, Addr.mk.injEq] at e'
            rw [e'.1]
            exact World.block_lt_of_cell? W0 ⟨bl', off' + k * 2 + 0, none⟩ (hcc 0 _ rfl)
          have := hlo.out
          omega
        clear hp
        have hxy := (onB_iff x y).1 hon.out
        obtain ⟨hx1, hx2, hy1, hy2⟩ := hxy
        obtain ⟨W4, hW4⟩ : ∃ W4, wr.alloc (.cells #[.int .i64 x, .int .i64 y] 29) = W4 := ⟨_, rfl⟩
        have hb4 : Below wr.heap.size wr W4 := by rw [← hW4]; exact below1 _ _
        have T4 : TK W0 W4 tb [thN (m : Int) x y] [wr.heap.size, xb] := by rw [← hW4]; exact T.also (below1 _ _) (Nat.le_refl _) (by simp)
        have K4 := hid (var_on hb4 K.out (lt_of_at K.out))
        have P4 := hid (show W4.heap[wr.heap.size]? = some (.cells #[.int .i64 x, .int .i64 y] 29 (0, 0)) by rw [← hW4]; exact new_at _ _ _ rfl)
        have hd1 := hid (cell_below hb4 hc1)
        have hd2 := hid (cell_below hb4 hc2)
        have hpx : Hid (wr.heap.size ≠ xb) := fun e => by have := lt_of_at K.out; omega
        have HW4 := hid hW4
        clear hW4 hc1 hc2 T
        have cK := cells_at K.out
        have lK := lt_of_at K.out
        go_upto_region 13 with fail
        rw [HW4.out]
        clear HW4 cK lK K hb4
        obtain ⟨pb, hpb⟩ : ∃ pb, wr.heap.size = pb := ⟨_, rfl⟩
        rw [hpb] at T4 P4 hpx ⊢
        clear hpb
        have cK := cells_at K4.out
        have e1 := hd1.out
        have e2 := hd2.out
        have e3 := hne.out
        go_upto_region 14 with fail
        have hoff := off_set2 W4 xb 1 2 (.int .i64 a) (.int .i64 b)
        have K5 := hid (set_two (a := a) (b := b) K4.out)
        have P5 := hid (at_off P4.out hoff (by simp; exact hpx.out))
        have T5 := T4.off hoff (by simp) hlo.out
        obtain ⟨W5, hW5⟩ : ∃ W5, (W4.setCell ⟨xb, 1, none⟩ (.int .i64 a)).setCell ⟨xb, 2, none⟩ (.int .i64 b) = W5 := ⟨_, rfl⟩
        rw [hW5] at K5 P5 T5 hoff ⊢
        clear hW5 hoff T4 K4 P4 e1 e2 e3 hd1 hd2 cK hne
        have cK := cells_at K5.out
        obtain ⟨q0, hab⟩ : ∃ q0, Hid (onB a b = q0) := ⟨_, rfl⟩
        cases q0
        · obtain ⟨f1, f2⟩ := set_not hm (x := x) (y := y) hab.out
          have C5 := tk_set T5 (thN_in _ _ _) (hid f1) (hid f2)
          clear f1 f2
          go_wp2_with fail
          with_reducible refine C5.mono ?_
          rintro z W6a ⟨rfl, T6a, hK⟩
          have K6a := hid (hK.at (g := xb) (by simp) K5.out)
          have P6a := hid (hK.at (g := pb) (by simp) P5.out)
          clear hK T5 K5 P5 cK C5
          have cK := cells_at K6a.out
          have cP := cells_at P6a.out
          go_upto_region 19 with fail
          have hoff := off_set2 W6a xb 1 2 (.int .i64 x) (.int .i64 y)
          have K6 := hid (set_two (a := x) (b := y) K6a.out)
          have P6 := hid (at_off P6a.out hoff (by simp; exact hpx.out))
          have T6 := T6a.off hoff (by simp) hlo.out
          obtain ⟨W6, hW6⟩ : ∃ W6, (W6a.setCell ⟨xb, 1, none⟩ (.int .i64 x)).setCell ⟨xb, 2, none⟩ (.int .i64 y) = W6 := ⟨_, rfl⟩
          rw [hW6] at K6 P6 T6 hoff ⊢
          clear hW6 hoff T6a K6a P6a cK cP
          obtain ⟨W7, hW7⟩ : ∃ W7, (W6.alloc (.cells #[.int .i64 x, .int .i64 y, .int .i64 (x + 1), .int .i64 (y + 1)] 44)).alloc (.cells #[.int .i64 x, .int .i64 y, .int .i64 (x + 1), .int .i64 (y + 1)] 44) = W7 := ⟨_, rfl⟩
          have hb7 : Below W6.heap.size W6 W7 := by rw [← hW7]; exact (below1 _ _).alloc (by simp) _
          have O7 := hid (show W7.heap[W6.heap.size]? = some (.cells #[.int .i64 x, .int .i64 y, .int .i64 (x + 1), .int .i64 (y + 1)] 44 (0, 0)) by rw [← hW7]; exact old_at (new_at _ _ _ rfl) _)
          have Q7 := hid (show W7.heap[W6.heap.size + 1]? = some (.cells #[.int .i64 x, .int .i64 y, .int .i64 (x + 1), .int .i64 (y + 1)] 44 (0, 0)) by rw [← hW7]; exact new_at _ _ _ (by simp))
          have T7 := T6.later hb7
          have K7 := hid (var_on hb7 K6.out (lt_of_at K6.out))
          have P7 := hid (var_on hb7 P6.out (lt_of_at P6.out))
          have HW7 := hid hW7
          clear hW7 T6
          have cK := cells_at K6.out
          have cP := cells_at P6.out
          have lK := lt_of_at K6.out
          have lP := lt_of_at P6.out
          go_upto_region 21 with fail
          rw [HW7.out]
          clear HW7 cK cP lK lP K6 P6 hb7
          obtain ⟨ob7, hob⟩ : ∃ ob7, W6.heap.size = ob7 := ⟨_, rfl⟩
          rw [hob] at O7 Q7 ⊢
          clear hob
          have cO := cells_at O7.out
          go_wp2_with fail
          with_reducible refine (tk_in T7 x y (x + 1) (y + 1) (hid (in_one (m : Int) x y)) (n := 1) (hid rfl)).mono ?_
          rintro z W8 ⟨p8, c8, rfl, -, hb8⟩
          have T8 := T7.later hb8
          have K8 := hid (var_on hb8 K7.out (lt_of_at K7.out))
          have P8 := hid (var_on hb8 P7.out (lt_of_at P7.out))
          have Q8 := hid (var_on hb8 Q7.out (lt_of_at Q7.out))
          clear T7 K7 P7 Q7 O7 cO hb8
          have cK := cells_at K8.out
          have cP := cells_at P8.out
          have cQ := cells_at Q8.out
          have hE := equal_pt_at (show pEq x y x y = true by simp [pEq])
          go_wp2_with fail
          have T9 := T8
          have K9 := K8
          clear T8 K8 P8 Q8 cK cP cQ
          with_reducible refine (tk_len T9 (n := 1) (hid rfl)).mono ?_
          rintro z W10 ⟨rfl, hw⟩
          rw [hw]
          clear hw
          go_wp2_with fail
          go_roundw
          case rel => exact ⟨k + 1, x, y, by omega, by go_num, hon, T9.one, K9⟩
          case measure => simp [intOf]; omega
        · obtain ⟨f1, f2⟩ := set_on hm (x := x) (y := y) hab.out
          have C5 := tk_set T5 (thN_in _ _ _) (hid f1) (hid f2)
          clear f1 f2
          obtain ⟨ha1, ha2, hb1, hb2⟩ := (onB_iff a b).1 hab.out
          go_wp2_with fail
          with_reducible refine C5.mono ?_
          rintro z W6 ⟨rfl, T6, hK⟩
          have K6 := hid (hK.at (g := xb) (by simp) K5.out)
          have P6 := hid (hK.at (g := pb) (by simp) P5.out)
          clear hK T5 K5 P5 cK C5
          obtain ⟨q, hq⟩ : ∃ q, Hid (pEq a b x y = q) := ⟨_, rfl⟩
          cases q
          · have hdif : Hid (¬ (a = x ∧ b = y)) := fun h => by
              have := hq.out
              rw [h.1, h.2] at this
              simp [pEq] at this
            obtain ⟨W7, hW7⟩ : ∃ W7, (W6.alloc (.cells #[.int .i64 a, .int .i64 b, .int .i64 (a + 1), .int .i64 (b + 1)] 44)).alloc (.cells #[.int .i64 x, .int .i64 y, .int .i64 (x + 1), .int .i64 (y + 1)] 44) = W7 := ⟨_, rfl⟩
            have hb7 : Below W6.heap.size W6 W7 := by rw [← hW7]; exact (below1 _ _).alloc (by simp) _
            have O7 := hid (show W7.heap[W6.heap.size]? = some (.cells #[.int .i64 a, .int .i64 b, .int .i64 (a + 1), .int .i64 (b + 1)] 44 (0, 0)) by rw [← hW7]; exact old_at (new_at _ _ _ rfl) _)
            have Q7 := hid (show W7.heap[W6.heap.size + 1]? = some (.cells #[.int .i64 x, .int .i64 y, .int .i64 (x + 1), .int .i64 (y + 1)] 44 (0, 0)) by rw [← hW7]; exact new_at _ _ _ (by simp))
            have T7 := T6.later hb7
            have K7 := hid (var_on hb7 K6.out (lt_of_at K6.out))
            have P7 := hid (var_on hb7 P6.out (lt_of_at P6.out))
            have HW7 := hid hW7
            clear hW7 T6
            have cK := cells_at K6.out
            have cP := cells_at P6.out
            have lK := lt_of_at K6.out
            have lP := lt_of_at P6.out
            go_upto_region 21 with fail
            rw [HW7.out]
            clear HW7 cK cP lK lP K6 P6 hb7
            obtain ⟨ob7, hob⟩ : ∃ ob7, W6.heap.size = ob7 := ⟨_, rfl⟩
            rw [hob] at O7 Q7 ⊢
            clear hob
            have cO := cells_at O7.out
            go_wp2_with fail
            with_reducible refine (tk_in T7 a b (a + 1) (b + 1) (hid (in_one (m : Int) a b)) (n := 1) (hid rfl)).mono ?_
            rintro z W8 ⟨p8, c8, rfl, -, hb8⟩
            have T8 := T7.later hb8
            have K8 := hid (var_on hb8 K7.out (lt_of_at K7.out))
            have P8 := hid (var_on hb8 P7.out (lt_of_at P7.out))
            have Q8 := hid (var_on hb8 Q7.out (lt_of_at Q7.out))
            clear T7 K7 P7 Q7 O7 cO hb8
            have cK := cells_at K8.out
            have cP := cells_at P8.out
            have cQ := cells_at Q8.out
            have hE := equal_pt_at hq.out
            go_wp2_with fail
            with_reducible refine (tk_in T8 x y (x + 1) (y + 1) (hid (in_old hdif.out)) (n := 0) (hid rfl)).mono ?_
            rintro z W9 ⟨p9, c9, rfl, -, hb9⟩
            have T9 := T8.later hb9
            have K9 := hid (var_on hb9 K8.out (lt_of_at K8.out))
            clear T8 K8 P8 Q8 cK cP cQ hb9
            go_wp2_with fail
            with_reducible refine (tk_len T9 (n := 1) (hid rfl)).mono ?_
            rintro z W10 ⟨rfl, hw⟩
            rw [hw]
            clear hw
            go_wp2_with fail
            go_roundw
            case rel => exact ⟨k + 1, a, b, by omega, by go_num, hab, T9.one, K9⟩
            case measure => simp [intOf]; omega
          · clear hpx
            obtain ⟨W7, hW7⟩ : ∃ W7, (W6.alloc (.cells #[.int .i64 a, .int .i64 b, .int .i64 (a + 1), .int .i64 (b + 1)] 44)).alloc (.cells #[.int .i64 x, .int .i64 y, .int .i64 (x + 1), .int .i64 (y + 1)] 44) = W7 := ⟨_, rfl⟩
            have hb7 : Below W6.heap.size W6 W7 := by rw [← hW7]; exact (below1 _ _).alloc (by simp) _
            have O7 := hid (show W7.heap[W6.heap.size]? = some (.cells #[.int .i64 a, .int .i64 b, .int .i64 (a + 1), .int .i64 (b + 1)] 44 (0, 0)) by rw [← hW7]; exact old_at (new_at _ _ _ rfl) _)
            have Q7 := hid (show W7.heap[W6.heap.size + 1]? = some (.cells #[.int .i64 x, .int .i64 y, .int .i64 (x + 1), .int .i64 (y + 1)] 44 (0, 0)) by rw [← hW7]; exact new_at _ _ _ (by simp))
            have T7 := T6.later hb7
            have K7 := hid (var_on hb7 K6.out (lt_of_at K6.out))
            have P7 := hid (var_on hb7 P6.out (lt_of_at P6.out))
            have HW7 := hid hW7
            clear hW7 T6
            have cK := cells_at K6.out
            have cP := cells_at P6.out
            have lK := lt_of_at K6.out
            have lP := lt_of_at P6.out
            go_upto_region 21 with fail
            rw [HW7.out]
            clear HW7 cK cP lK lP K6 P6 hb7
            obtain ⟨ob7, hob⟩ : ∃ ob7, W6.heap.size = ob7 := ⟨_, rfl⟩
            rw [hob] at O7 Q7 ⊢
            clear hob
            have cO := cells_at O7.out
            go_wp2_with fail
            with_reducible refine (tk_in T7 a b (a + 1) (b + 1) (hid (in_one (m : Int) a b)) (n := 1) (hid rfl)).mono ?_
            rintro z W8 ⟨p8, c8, rfl, -, hb8⟩
            have T8 := T7.later hb8
            have K8 := hid (var_on hb8 K7.out (lt_of_at K7.out))
            have P8 := hid (var_on hb8 P7.out (lt_of_at P7.out))
            have Q8 := hid (var_on hb8 Q7.out (lt_of_at Q7.out))
            clear T7 K7 P7 Q7 O7 cO hb8
            have cK := cells_at K8.out
            have cP := cells_at P8.out
            have cQ := cells_at Q8.out
            have hE := equal_pt_at hq.out
            go_wp2_with fail
            have T9 := T8
            have K9 := K8
            clear T8 K8 P8 Q8 cK cP cQ
            with_reducible refine (tk_len T9 (n := 1) (hid rfl)).mono ?_
            rintro z W10 ⟨rfl, hw⟩
            rw [hw]
            clear hw
            go_wp2_with fail
            go_roundw
            case rel => exact ⟨k + 1, a, b, by omega, by go_num, hab, T9.one, K9⟩
            case measure => simp [intOf]; omega
      · obtain rfl : k = n := by omega
        have hlt' : ¬ (k : Int) < (k : Int) := by omega
        have hB := T.below
        go_wp2_with fail
        go_ret
        exact ⟨rfl, below_on hb0 hB⟩


theorem tableMoves_own : ownKnob Tryd.prog.godebug = none := by kernel_rfl
theorem tableMoves_laidOut : laidOutB Tryd.prog = true := by kernel_rfl
set_option maxRecDepth 100000 in
theorem tableMoves_lifted (os : Os) (started : os.Started) (H : Type) (enc : TypeId × Value → H) :
    ReturnsInHanded {} Tryd.checked os 4 .any (fun w args => (Rows.tableMovesSpec.pre enc Tryd.prog Tryd.f4 [] false w args ∧ laidMetH Tryd.prog laids w) ∧ sizedMet enc Tryd.prog Tryd.f4 (OpenSpec.ofChange Rows.tableMovesSpec) false w args) (Rows.tableMovesSpec.post enc Tryd.prog Tryd.f4 false true false false) := by
  refine returnsInHanded_of_change_and (C := Tryd.checked) (X := fun w _ => laidMetH Tryd.prog laids w) (fun _ _ _ hh h => h.of_heap hh) own_knob started (by kernel_rfl) Tryd.func4
    (ChangeSpec.witness_shaped (enc := enc) (C := Tryd.checked) (os := os) (X := fun w _ => laidMetH Tryd.prog laids w) false (World.laidAll Tryd.prog os laids) #[.slice none 0 0, .int .u8 0] 8 rfl (World.shaped_of_ZipB (by kernel_rfl) (by kernel_rfl)) (by kernel_rfl) (by kernel_rfl) (by kernel_rfl) (door_met os _)) ?_
  intro W base args ds gs before hval0 hW _ _ hL _
  have hval : ∀ (j : Nat) t v, Tryd.f4.params[j]? = some t → args[j]? = some v → Value.okWide Tryd.prog W .any base t v := hval0
  have hW' := hW
  obtain ⟨p, q, hA0, hV, rfl, hfz, hnd⟩ := hW
  have hA : DataW.TrodAll enc Tryd.prog W 0 (fun _ => true) true Tryd.f4.params.toList args.toList ds p := hA0
  rw [Tryd.params4] at hA hval
  obtain ⟨v0, vs0, d0, ds0, p0, q0, hargs, rfl, rfl, h0, r0⟩ := trodAll_cons hA
  obtain ⟨v1, vs1, d1, ds1, p1, q1, rfl, rfl, rfl, h1, r1⟩ := trodAll_cons r0
  obtain ⟨rfl, rfl, rfl⟩ := trodAll_nil r1
  obtain rfl : args = #[v0, v1] := by cases args; simp_all
  obtain ⟨rfl, rfl⟩ := trodVars_none hV
  have k0 := h0
  have lt0 : ∀ x ∈ p0, x.block < W.heap.size := by obtain ⟨m, hm⟩ := k0; exact DataW.trod_lt m _ _ _ hm
  have k1 := h1
  have lt1 : ∀ x ∈ p1, x.block < W.heap.size := by obtain ⟨m, hm⟩ := k1; exact DataW.trod_lt m _ _ _ hm
  obtain ⟨a0, cap0, L0, rfl, r0', c0, m0⟩ := open_pts (hval 0 39 v0 rfl rfl) h0
  obtain ⟨a1, rfl, rfl, rfl, w1⟩ := open_int Tryd.underlying5 (hval 1 5 v1 rfl rfl) h1
  clear hA0 hval0
  refine (tableMoves_walk W (of_laid hL) a0 cap0 L0 r0' c0 m0 a1 w1).mono fun e W' ⟨he, bel⟩ => ?_
  subst he
  exact ⟨_, rfl, _, _, _, [], _, [], hW', trodAll_mk1 (shut_bool Tryd.underlying4 _), (trodAll_cons_mk (Below.trod tableMoves_laidOut (by kernel_rfl) (of_decide_eq_true (by kernel_rfl)) k0 bel lt0) (trodAll_cons_mk (Below.trod tableMoves_laidOut (by kernel_rfl) (of_decide_eq_true (by kernel_rfl)) k1 bel lt1) trodAll_mk0)), rfl, bel.frame _, fun h => by cases h⟩

theorem tableMoves_over : Rows.tableMovesRow.holds Tryd.pinned (OpenSpec.ofChange Rows.tableMovesSpec) :=
  OpenClaim.holds_of_wide 4 Tryd.f4 rfl rfl rfl rfl rfl rfl rfl ⟨rfl, rfl, rfl, rfl, rfl⟩ rfl rfl rfl rfl rfl (by kernel_rfl) Tryd.func4 (by kernel_rfl)
    (of_decide_eq_true (by kernel_rfl)) (by unfold Func.isWrapper; first | (rw [if_pos (by decide +kernel)]; kernel_rfl) | (rw [if_neg (by decide +kernel)]; exact ⟨rfl, rfl⟩))
    (fun os started H enc _ => tableMoves_lifted os started H enc)

theorem tableMoves_holds : Rows.TableMovesCardSaid :=
  Claim7.holds_tied_plain_at .later [] [.data] true (true, "4d1cb17433c6e5fb01383cd22658f0a672d33ddc86b52a01092985a336b79d3d") true
    tableMoves_over (fun _ h => by cases h) (by kernel_rfl) (fun _ h => by cases h) tableMoves_row_tie rfl ⟨rfl, rfl⟩ (by kernel_rfl) rfl
    (fun f fn hf hfn => by
      obtain rfl : f = 4 := Option.some.inj ((show Tryd.prog.funcNamed "vedette/vedettelaw9.TableMoves" = some 4 by kernel_rfl).symm.trans hf) |>.symm
      obtain rfl : fn = Tryd.f4 := (Option.some.inj (Tryd.func4.symm.trans hfn)).symm
      exact ⟨by kernel_rfl, fun j t ht => by
        rw [Tryd.params4] at ht
        have hm : t ∈ [39, 5] := by simpa using Array.mem_of_getElem? ht
        have hall : ([39, 5].all fun u => !Tryd.prog.wantsStandIn u) = true := by kernel_rfl
        exact (show Tryd.prog.wantsStandIn t = false by simpa using List.all_eq_true.1 hall t hm)⟩)
    (by kernel_rfl)
#print axioms tableMoves_holds
end Go.Proofs.YtildhbkcpehobaaDoor
