/- For every two rows of at most 20 numbers: of one thing that is moved by the first ones and set by the others the last ones count. No conditions. -/
import Derived.Test.YtfoncphdbaaedaaGreatDoorWdC
import Derived.Test.YtfoncphdbaaedaaGreatDoorAcT
import Derived.Test.YtfoncphdbaaedaaGreatDoorLaid
import Derived.Test.YtfoncphdbaaedaaGreatDoorRI
import Derived.Test.YtfoncphdbaaedaaGreatDoorLaid
import Derived.Test.YtfoncphdbaaedaaGreatDoorCards
import Derived.Test.YtfoncphdbaaedaaGreatDoorTie
import Derived.SevenTiedAt
import Derived.ProofKit
import Derived.OpenShut
import Derived.ShutString
import Derived.ChangeOld
import Derived.Below
import Derived.SizedLaws
namespace Go.Proofs.YtfoncphdbaaedaaGreatDoor
open Go.ChangeShapes Go.WideShapes Go.ChangeAt Go.RowKit
open Go.ChangeMaps (open_string shut_string)
set_option linter.unusedVariables false

theorem TK.off {W0 w w' : World} {tb : Nat} {L : List Th} {K : List Nat} (h : TK W0 w tb L K) {g : Nat} (ho : Off [g] w w') (hg : g ∈ K) (hl : W0.heap.size ≤ g) : TK W0 w' tb L K := by
  obtain ⟨X, h1, h2⟩ := h.has
  exact ⟨X, h1.off ho (fun k hk hm => by simp at hm; subst hm; exact (h2 k hg).2 hk) (fun k hk => by simp at hk; subst hk; exact hl), fun k hk => ⟨Nat.lt_of_lt_of_le (h2 k hk).1 ho.size, (h2 k hk).2⟩⟩
theorem off_set1 (W : World) (g i : Nat) (u : Value) : Off [g] W (W.setCell ⟨g, i, none⟩ u) :=
  ⟨rfl, rfl, rfl, by simp, fun k hk hx => by rw [Below.heap_setCell _ _ _ _ (by simpa using hx)]⟩
abbrev tl (x y a b c d : Int) : Th := ⟨3, x, y, ⟨a, ⟨#[]⟩⟩, ⟨b, ⟨#[]⟩⟩, ⟨c, ⟨#[]⟩⟩, ⟨d, ⟨#[]⟩⟩⟩
abbrev ol (x y a b c d : Int) : Obj := .cells #[.int .i64 3, .int .i64 x, .int .i64 y, .int .i64 a, .string ⟨#[]⟩, .int .i64 b, .string ⟨#[]⟩, .int .i64 c, .string ⟨#[]⟩, .int .i64 d, .string ⟨#[]⟩] 54 (0, 0)
theorem first_put : wdE [] (cmPut 0 0) 3 = 0 ∧ wdL [] (cmPut 0 0) 3 = [tl 0 0 0 0 0 0] := ⟨by decide +kernel, by kernel_rfl⟩
theorem setl_0 (x y a b c d v : Int) : setT (tl x y a b c d) 0 ⟨v, ⟨#[]⟩⟩ = tl x y v b c d := rfl
theorem setl_1 (x y a b c d v : Int) : setT (tl x y a b c d) 1 ⟨v, ⟨#[]⟩⟩ = tl x y a v c d := rfl
theorem setl_2 (x y a b c d v : Int) : setT (tl x y a b c d) 2 ⟨v, ⟨#[]⟩⟩ = tl x y a b v d := rfl
theorem setl_3 (x y a b c d v : Int) : setT (tl x y a b c d) 3 ⟨v, ⟨#[]⟩⟩ = tl x y a b c v := rfl
theorem movl (x y a b c d u v : Int) : movT (tl x y a b c d) (cmMove 3 u v) = tl u v a b c d := rfl
set_option maxRecDepth 100000 in
set_option maxHeartbeats 4000000 in
theorem worldLast_walk (w : World) (hL : Masks w) (a0 : Option Addr) (len0 cap0 : Nat) (ts0 : List Int) (ht0 : ts0.length = len0) (hb0 : ∀ n ∈ ts0, (Lit.int .u8 n).wf = true) (hr0 : RowIs w a0 (nums .u8 ts0)) (hl0 : len0 ≤ maxLen)
    (a1 : Option Addr) (len1 cap1 : Nat) (ts1 : List Int) (ht1 : ts1.length = len1) (hb1 : ∀ n ∈ ts1, (Lit.int .u8 n).wf = true) (hr1 : RowIs w a1 (nums .u8 ts1)) (hl1 : len1 ≤ maxLen) :
    Calls Tryz.prog 6 #[.slice a0 len0 cap0, .slice a1 len1 cap1] w fun e w' => e = .returned (.bool true) ∧ Below w.heap.size w w' := by
  have CK := known12 w hL
  have HM := hid hL
  have HT0 := hid ht0
  have HT1 := hid ht1
  have HB0 := hid hb0
  have HB1 := hid hb1
  have HR0 := hid hr0
  have HR1 := hid hr1
  clear hL ht0 ht1 hb0 hb1 hr0 hr1 hl0 hl1
  go_enter Tryz.func6, Tryz.ntmps6
  go_wp2_with fail
  refine CK.mono ?_
  rintro z W0 ⟨rfl, hb0⟩
  have HM0 := hid (HM.out.below hb0)
  have HV0 := hid (HR0.out.later hb0)
  have HU0 := hid (HR1.out.later hb0)
  clear CK HM HR0 HR1
  by_cases hbig : 20 < len0
  · have hbig' : decide ((20 : Int) < (len0 : Int)) = true := by simp; omega
    go_wp2_with fail
    go_ret
    exact ⟨rfl, hb0⟩
  have hbig' : decide ((20 : Int) < (len0 : Int)) = false := by simp; omega
  by_cases hbig2 : 20 < len1
  · have hbig2' : decide ((20 : Int) < (len1 : Int)) = true := by simp; omega
    go_wp2_with fail
    go_ret
    exact ⟨rfl, hb0⟩
  have hbig2' : decide ((20 : Int) < (len1 : Int)) = false := by simp; omega
  go_wp2_with fail
  with_reducible refine (wd_new HM0.out).mono ?_
  rintro z W1 ⟨wb, rfl, T1⟩
  have T1h := hid T1
  clear T1
  obtain ⟨N0, hN0⟩ : ∃ N, Hid (wdN [] (cmPut 0 0) 3 = N) := ⟨_, rfl⟩
  go_wp2_with fail
  with_reducible refine (wd_do (c := cmPut 0 0) (id := 3) T1h.out cm_in0 (inI_small (by decide) (by decide)) hN0 (hid first_put.1) (hid first_put.2)).mono ?_
  rintro z W2 ⟨rfl, T2, -⟩
  obtain ⟨W3, hW3⟩ : ∃ W3, W2.alloc (ol 0 0 0 0 0 0) = W3 := ⟨_, rfl⟩
  have hb3 : Below W2.heap.size W2 W3 := by rw [← hW3]; exact below1 _ _
  have P3 := hid (show W3.heap[W2.heap.size]? = some (ol 0 0 0 0 0 0) by rw [← hW3]; exact new_at _ _ _ rfl)
  have T3 := hid (T2.also hb3 (Nat.le_refl _) (lt_of_at P3.out))
  have hlo : Hid (W0.heap.size ≤ W2.heap.size) := T2.below.size
  have HW3 := hid hW3
  clear hW3 hb3 T2 T1h hN0
  go_upto_region 8 with fail
  rw [HW3.out]
  clear HW3
  obtain ⟨tb, htb⟩ : ∃ tb, W2.heap.size = tb := ⟨_, rfl⟩
  rw [htb] at P3 T3 hlo ⊢
  clear htb
  go_wp2_with fail
  go_loopw [7] (fun i wr => ∃ (k : Nat) (x y : Int), k ≤ len0 ∧ i = .int .i64 (k : Nat) ∧ Hid (TK W0 wr wb [tl x y 0 0 0 0] [tb]) ∧ Hid (wr.heap[tb]? = some (ol x y 0 0 0 0))) (fun i _ => len0 - (intOf i).toNat)
  case atStart => exact ⟨0, 0, 0, by omega, rfl, T3, P3⟩
  case round =>
    obtain ⟨k, x, y, hk, rfl, T, P⟩ := hrel
    clear T3 P3
    by_cases hlt : k < len0
    · have hlt' : (k : Int) < (len0 : Int) := by omega
      obtain ⟨u, hu⟩ := get_some ts0 k (by rw [HT0.out]; exact hlt)
      obtain ⟨v, rfl, hv⟩ := nat_u8 (HB0.out u (List.mem_of_getElem? hu))
      obtain ⟨vb, vo, rfl, hcv⟩ := (HV0.out.later T.out.below).at (i := k) (v := .int .u8 (v : Int)) (by simp [nums, hu])
      clear hu
      obtain ⟨X, hX⟩ : ∃ X : Int, (v : Int) % 64 = X := ⟨_, rfl⟩
      obtain ⟨Y, hY⟩ : ∃ Y : Int, (v : Int) / 4 = Y := ⟨_, rfl⟩
      have HO := hid (show onB X Y = true from by rw [onB_iff]; omega)
      have P5 : Hid (((wr.setCell ⟨tb, 1, none⟩ (.int .i64 X)).setCell ⟨tb, 2, none⟩ (.int .i64 Y)).drew.heap[tb]? = some (ol X Y 0 0 0 0)) := show ((wr.setCell ⟨tb, 1, none⟩ (.int .i64 X)).setCell ⟨tb, 2, none⟩ (.int .i64 Y)).heap[tb]? = _ from set_at (set_at P.out _ rfl) _ rfl
      have T5 : Hid (TK W0 ((wr.setCell ⟨tb, 1, none⟩ (.int .i64 X)).setCell ⟨tb, 2, none⟩ (.int .i64 Y)).drew wb [tl x y 0 0 0 0] [tb]) := ((T.out.off (off_set1 _ _ _ _) (by simp) hlo.out).off (off_set1 _ _ _ _) (by simp) hlo.out).later (Below.refl _ _).drew
      have cP := cells_at P.out
      have lP := lt_of_at P.out
      go_upto_region 11 with fail
      go_region
      all_goals
        obtain ⟨W5, hW5⟩ : ∃ W5, ((wr.setCell ⟨tb, 1, none⟩ (.int .i64 X)).setCell ⟨tb, 2, none⟩ (.int .i64 Y)).drew = W5 := ⟨_, rfl⟩
        rw [hW5] at P5 T5
        try rw [hX]
        try rw [hY]
        try rw [hW5]
        clear hX hY hv hW5 cP lP hcv T P
        have cP := cells_at P5.out
        obtain ⟨f1, f2⟩ := one_move (x := X) (y := Y) T5.out.good rfl HO.out
        rw [movl] at f2
        obtain ⟨N, hN⟩ : ∃ N, Hid (wdN [tl x y 0 0 0 0] (cmMove 3 X Y) 0 = N) := ⟨_, rfl⟩
        have C := wd_do (c := cmMove 3 X Y) (id := 0) T5.out cm_in0 (inI_small (by decide) (by decide)) hN (hid f1) (hid f2)
        clear f1 f2
        go_wp2_with fail
        with_reducible refine C.mono ?_
        rintro z W6 ⟨rfl, T6, hK6⟩
        have P6 := hid (hK6.at (g := tb) (by simp) P5.out)
        have T6h := hid T6
        clear C T5 P5 T6 hK6 cP
        go_wp2_with fail
        go_roundw
        case rel => exact ⟨k + 1, X, Y, by omega, by go_num, T6h, P6⟩
        case measure => simp [intOf]; omega
    · obtain rfl : k = len0 := by omega
      have hlt' : ¬ (k : Int) < (k : Int) := by omega
      go_wp2_with fail
      go_loopw [10] (fun i wr => ∃ (k a b c d : Int) (j : Nat), j ≤ len1 ∧ i = .int .i64 (j : Nat) ∧ Hid (TK W0 wr wb [tl x y a b c d] [tb]) ∧ Hid (wr.heap[tb]? = some (ol x y a b c d))) (fun i _ => len1 - (intOf i).toNat)
      case atStart => exact ⟨0, 0, 0, 0, 0, 0, by omega, rfl, T, P⟩
      case round =>
        obtain ⟨_, a, b, c, d, j, hj, rfl, T2, P2⟩ := hrel
        clear T P
        by_cases hjl : j < len1
        · have hjl' : (j : Int) < (len1 : Int) := by omega
          obtain ⟨u, hu⟩ := get_some ts1 j (by rw [HT1.out]; exact hjl)
          obtain ⟨v, rfl, hv⟩ := nat_u8 (HB1.out u (List.mem_of_getElem? hu))
          obtain ⟨vb, vo, rfl, hcv⟩ := (HU0.out.later T2.out.below).at (i := j) (v := .int .u8 (v : Int)) (by simp [nums, hu])
          clear hu
          have hr : (j : Int).tmod 4 = 0 ∨ (j : Int).tmod 4 = 1 ∨ (j : Int).tmod 4 = 2 ∨ (j : Int).tmod 4 = 3 := by rw [Int.tmod_eq_emod_of_nonneg (by omega)]; omega
          have cP := cells_at P2.out
          have lP := lt_of_at P2.out
          rcases hr with hr | hr | hr | hr
          · have P5 : Hid ((wr.setCell ⟨tb, 3, none⟩ (.int .i64 (v : Int))).heap[tb]? = some (ol x y (v : Int) b c d)) := set_at P2.out _ rfl
            have T5 : Hid (TK W0 (wr.setCell ⟨tb, 3, none⟩ (.int .i64 (v : Int))) wb [tl x y a b c d] [tb]) := T2.out.off (off_set1 _ _ _ _) (by simp) hlo.out
            go_upto_region 19 with fail
            obtain ⟨W5, hW5⟩ : ∃ W5, wr.setCell ⟨tb, 3, none⟩ (.int .i64 (v : Int)) = W5 := ⟨_, rfl⟩
            rw [hW5] at P5 T5
            rw [hW5]
            clear hW5 cP lP hcv T2 P2
            have cP := cells_at P5.out
            obtain ⟨f1, f2⟩ := one_set (t := tl x y a b c d) (wh := 0) (n := (v : Int)) T5.out.good rfl (by decide) (by decide)
            rw [setl_0] at f2
            obtain ⟨N, hN⟩ : ∃ N, Hid (wdN [tl x y a b c d] (cmSet 3 0 (v : Int)) 0 = N) := ⟨_, rfl⟩
            have C := wd_do (c := cmSet 3 0 (v : Int)) (id := 0) T5.out (cm_in (by omega) (by omega)) (inI_small (by decide) (by decide)) hN (hid f1) (hid f2)
            clear f1 f2
            go_wp2_with fail
            with_reducible refine C.mono ?_
            rintro z W6 ⟨rfl, T6, hK6⟩
            have P6 := hid (hK6.at (g := tb) (by simp) P5.out)
            have T6h := hid T6
            clear C T5 P5 T6 hK6 cP
            go_wp2_with fail
            go_roundw
            case rel => exact ⟨0, (v : Int), b, c, d, j + 1, by omega, by go_num, T6h, P6⟩
            case measure => simp [intOf]; omega
          · have P5 : Hid ((wr.setCell ⟨tb, 5, none⟩ (.int .i64 (v : Int))).heap[tb]? = some (ol x y a (v : Int) c d)) := set_at P2.out _ rfl
            have T5 : Hid (TK W0 (wr.setCell ⟨tb, 5, none⟩ (.int .i64 (v : Int))) wb [tl x y a b c d] [tb]) := T2.out.off (off_set1 _ _ _ _) (by simp) hlo.out
            go_upto_region 19 with fail
            obtain ⟨W5, hW5⟩ : ∃ W5, wr.setCell ⟨tb, 5, none⟩ (.int .i64 (v : Int)) = W5 := ⟨_, rfl⟩
            rw [hW5] at P5 T5
            rw [hW5]
            clear hW5 cP lP hcv T2 P2
            have cP := cells_at P5.out
            obtain ⟨f1, f2⟩ := one_set (t := tl x y a b c d) (wh := 1) (n := (v : Int)) T5.out.good rfl (by decide) (by decide)
            rw [setl_1] at f2
            obtain ⟨N, hN⟩ : ∃ N, Hid (wdN [tl x y a b c d] (cmSet 3 1 (v : Int)) 0 = N) := ⟨_, rfl⟩
            have C := wd_do (c := cmSet 3 1 (v : Int)) (id := 0) T5.out (cm_in (by omega) (by omega)) (inI_small (by decide) (by decide)) hN (hid f1) (hid f2)
            clear f1 f2
            go_wp2_with fail
            with_reducible refine C.mono ?_
            rintro z W6 ⟨rfl, T6, hK6⟩
            have P6 := hid (hK6.at (g := tb) (by simp) P5.out)
            have T6h := hid T6
            clear C T5 P5 T6 hK6 cP
            go_wp2_with fail
            go_roundw
            case rel => exact ⟨0, a, (v : Int), c, d, j + 1, by omega, by go_num, T6h, P6⟩
            case measure => simp [intOf]; omega
          · have P5 : Hid ((wr.setCell ⟨tb, 7, none⟩ (.int .i64 (v : Int))).heap[tb]? = some (ol x y a b (v : Int) d)) := set_at P2.out _ rfl
            have T5 : Hid (TK W0 (wr.setCell ⟨tb, 7, none⟩ (.int .i64 (v : Int))) wb [tl x y a b c d] [tb]) := T2.out.off (off_set1 _ _ _ _) (by simp) hlo.out
            go_upto_region 19 with fail
            obtain ⟨W5, hW5⟩ : ∃ W5, wr.setCell ⟨tb, 7, none⟩ (.int .i64 (v : Int)) = W5 := ⟨_, rfl⟩
            rw [hW5] at P5 T5
            rw [hW5]
            clear hW5 cP lP hcv T2 P2
            have cP := cells_at P5.out
            obtain ⟨f1, f2⟩ := one_set (t := tl x y a b c d) (wh := 2) (n := (v : Int)) T5.out.good rfl (by decide) (by decide)
            rw [setl_2] at f2
            obtain ⟨N, hN⟩ : ∃ N, Hid (wdN [tl x y a b c d] (cmSet 3 2 (v : Int)) 0 = N) := ⟨_, rfl⟩
            have C := wd_do (c := cmSet 3 2 (v : Int)) (id := 0) T5.out (cm_in (by omega) (by omega)) (inI_small (by decide) (by decide)) hN (hid f1) (hid f2)
            clear f1 f2
            go_wp2_with fail
            with_reducible refine C.mono ?_
            rintro z W6 ⟨rfl, T6, hK6⟩
            have P6 := hid (hK6.at (g := tb) (by simp) P5.out)
            have T6h := hid T6
            clear C T5 P5 T6 hK6 cP
            go_wp2_with fail
            go_roundw
            case rel => exact ⟨0, a, b, (v : Int), d, j + 1, by omega, by go_num, T6h, P6⟩
            case measure => simp [intOf]; omega
          · have P5 : Hid ((wr.setCell ⟨tb, 9, none⟩ (.int .i64 (v : Int))).heap[tb]? = some (ol x y a b c (v : Int))) := set_at P2.out _ rfl
            have T5 : Hid (TK W0 (wr.setCell ⟨tb, 9, none⟩ (.int .i64 (v : Int))) wb [tl x y a b c d] [tb]) := T2.out.off (off_set1 _ _ _ _) (by simp) hlo.out
            go_upto_region 19 with fail
            obtain ⟨W5, hW5⟩ : ∃ W5, wr.setCell ⟨tb, 9, none⟩ (.int .i64 (v : Int)) = W5 := ⟨_, rfl⟩
            rw [hW5] at P5 T5
            rw [hW5]
            clear hW5 cP lP hcv T2 P2
            have cP := cells_at P5.out
            obtain ⟨f1, f2⟩ := one_set (t := tl x y a b c d) (wh := 3) (n := (v : Int)) T5.out.good rfl (by decide) (by decide)
            rw [setl_3] at f2
            obtain ⟨N, hN⟩ : ∃ N, Hid (wdN [tl x y a b c d] (cmSet 3 3 (v : Int)) 0 = N) := ⟨_, rfl⟩
            have C := wd_do (c := cmSet 3 3 (v : Int)) (id := 0) T5.out (cm_in (by omega) (by omega)) (inI_small (by decide) (by decide)) hN (hid f1) (hid f2)
            clear f1 f2
            go_wp2_with fail
            with_reducible refine C.mono ?_
            rintro z W6 ⟨rfl, T6, hK6⟩
            have P6 := hid (hK6.at (g := tb) (by simp) P5.out)
            have T6h := hid T6
            clear C T5 P5 T6 hK6 cP
            go_wp2_with fail
            go_roundw
            case rel => exact ⟨0, a, b, c, (v : Int), j + 1, by omega, by go_num, T6h, P6⟩
            case measure => simp [intOf]; omega
        · obtain rfl : j = len1 := by omega
          have hjl' : ¬ (j : Int) < (j : Int) := by omega
          go_wp2_with fail
          with_reducible refine (wd_all T2.out (n := 1) (hid rfl)).mono ?_
          rintro z W5 ⟨p5, c5, rfl, R5, hb5⟩
          have P5 := hid (var_on hb5 P2.out (lt_of_at P2.out))
          have hB5 := below_on hb0 (T2.out.later hb5).below
          obtain ⟨rb, ro, rfl, hcl⟩ := R5.at (k := 0) (t := tl x y a b c d) rfl
          have hcl2 := hid hcl
          clear hb5 T2 P2 R5 hcl
          obtain ⟨h0, h1, h2, h3, h4, h5, h6, h7, h8, h9, h10⟩ := hcl2.out
          simp only [Nat.zero_mul, Nat.add_zero] at h0 h1 h2 h3 h4 h5 h6 h7 h8 h9 h10
          have hQ := equal_th_at (eqT_self (tl x y a b c d))
          have cP := cells_at P5.out
          go_upto_region 23 with fail
          go_quiet (fail)
          go_wp2_with fail
          go_ret
          exact ⟨rfl, below_drewN hB5 _⟩

theorem worldLast_own : ownKnob Tryz.prog.godebug = none := by kernel_rfl
theorem worldLast_laidOut : laidOutB Tryz.prog = true := by kernel_rfl
set_option maxRecDepth 100000 in
theorem worldLast_lifted (os : Os) (started : os.Started) (H : Type) (enc : TypeId × Value → H) :
    ReturnsInHanded {} Tryz.checked os 6 .any (fun w args => (Rows.worldLastSpec.pre enc Tryz.prog Tryz.f6 [] false w args ∧ laidMetH Tryz.prog laids w) ∧ sizedMet enc Tryz.prog Tryz.f6 (OpenSpec.ofChange Rows.worldLastSpec) false w args) (Rows.worldLastSpec.post enc Tryz.prog Tryz.f6 false true false false) := by
  refine returnsInHanded_of_change_and (C := Tryz.checked) (X := fun w _ => laidMetH Tryz.prog laids w) (fun _ _ _ hh h => h.of_heap hh) own_knob started (by kernel_rfl) Tryz.func6
    (ChangeSpec.witness_shaped (enc := enc) (C := Tryz.checked) (os := os) (X := fun w _ => laidMetH Tryz.prog laids w) false (World.laidAll Tryz.prog os laids) #[.slice none 0 0, .slice none 0 0] 8 rfl (World.shaped_of_ZipB (by kernel_rfl) (by kernel_rfl)) (by kernel_rfl) (by kernel_rfl) (by kernel_rfl) (door_met os _)) ?_
  intro W base args ds gs before hval0 hW _ _ hL _
  have hval : ∀ (j : Nat) t v, Tryz.f6.params[j]? = some t → args[j]? = some v → Value.okWide Tryz.prog W .any base t v := hval0
  have hW' := hW
  obtain ⟨p, q, hA0, hV, rfl, hfz, hnd⟩ := hW
  have hA : DataW.TrodAll enc Tryz.prog W 0 (fun _ => true) true Tryz.f6.params.toList args.toList ds p := hA0
  rw [Tryz.params6] at hA hval
  obtain ⟨v0, vs0, d0, ds0, p0, q0, hargs, rfl, rfl, h0, r0⟩ := trodAll_cons hA
  obtain ⟨v1, vs1, d1, ds1, p1, q1, rfl, rfl, rfl, h1, r1⟩ := trodAll_cons r0
  obtain ⟨rfl, rfl, rfl⟩ := trodAll_nil r1
  obtain rfl : args = #[v0, v1] := by cases args; simp_all
  obtain ⟨rfl, rfl⟩ := trodVars_none hV
  have k0 := h0
  have lt0 : ∀ x ∈ p0, x.block < W.heap.size := by obtain ⟨m, hm⟩ := k0; exact DataW.trod_lt m _ _ _ hm
  have k1 := h1
  have lt1 : ∀ x ∈ p1, x.block < W.heap.size := by obtain ⟨m, hm⟩ := k1; exact DataW.trod_lt m _ _ _ hm
  obtain ⟨a0, len0, cap0, rfl⟩ := okWide_slice Tryz.underlying52 (hval 0 52 v0 rfl rfl)
  obtain ⟨ts0, ht0, hb0, hr0, hl0⟩ : ∃ ts0 : List Int, ts0.length = len0 ∧ (∀ n ∈ ts0, (Lit.int .u8 n).wf = true) ∧ RowIs W a0 (nums .u8 ts0) ∧ len0 ≤ maxLen := by
    obtain ⟨fuel, hf⟩ := h0
    rcases open_ints Tryz.underlying52 Tryz.underlying5 (by kernel_rfl) hf with ⟨hcs, _⟩ | ⟨x, l, c, ss, hcs, _, hl, hm, hz, _, hcell, hws⟩
    · simp [Value.cells] at hcs
      obtain ⟨rfl, rfl, rfl⟩ := hcs
      exact ⟨[], rfl, by simp, .inl rfl, by unfold maxLen; omega⟩
    · simp [Value.cells] at hcs
      obtain ⟨rfl, rfl, rfl⟩ := hcs
      have hz' : ss.length = cap0 := by simpa using hz
      obtain ⟨ts, e1, e2, e3⟩ := row_ints (len := len0) (by omega) hcell hws
      exact ⟨ts, e1, e2, e3, by omega⟩
  obtain ⟨a1, len1, cap1, rfl⟩ := okWide_slice Tryz.underlying52 (hval 1 52 v1 rfl rfl)
  obtain ⟨ts1, ht1, hb1, hr1, hl1⟩ : ∃ ts1 : List Int, ts1.length = len1 ∧ (∀ n ∈ ts1, (Lit.int .u8 n).wf = true) ∧ RowIs W a1 (nums .u8 ts1) ∧ len1 ≤ maxLen := by
    obtain ⟨fuel, hf⟩ := h1
    rcases open_ints Tryz.underlying52 Tryz.underlying5 (by kernel_rfl) hf with ⟨hcs, _⟩ | ⟨x, l, c, ss, hcs, _, hl, hm, hz, _, hcell, hws⟩
    · simp [Value.cells] at hcs
      obtain ⟨rfl, rfl, rfl⟩ := hcs
      exact ⟨[], rfl, by simp, .inl rfl, by unfold maxLen; omega⟩
    · simp [Value.cells] at hcs
      obtain ⟨rfl, rfl, rfl⟩ := hcs
      have hz' : ss.length = cap1 := by simpa using hz
      obtain ⟨ts, e1, e2, e3⟩ := row_ints (len := len1) (by omega) hcell hws
      exact ⟨ts, e1, e2, e3, by omega⟩
  clear hA0 hval0
  refine (worldLast_walk W (of_laid hL) a0 len0 cap0 ts0 ht0 hb0 hr0 hl0 a1 len1 cap1 ts1 ht1 hb1 hr1 hl1).mono fun e W' ⟨he, bel⟩ => ?_
  subst he
  exact ⟨_, rfl, _, _, _, [], _, [], hW', trodAll_mk1 (shut_bool Tryz.underlying4 _), (trodAll_cons_mk (Below.trod worldLast_laidOut (by kernel_rfl) (of_decide_eq_true (by kernel_rfl)) k0 bel lt0) (trodAll_cons_mk (Below.trod worldLast_laidOut (by kernel_rfl) (of_decide_eq_true (by kernel_rfl)) k1 bel lt1) trodAll_mk0)), rfl, bel.frame _, fun h => by cases h⟩

theorem worldLast_over : Rows.worldLastRow.holds Tryz.pinned (OpenSpec.ofChange Rows.worldLastSpec) :=
  OpenClaim.holds_of_wide 6 Tryz.f6 rfl rfl rfl rfl rfl rfl rfl ⟨rfl, rfl, rfl, rfl, rfl⟩ rfl rfl rfl rfl rfl (by kernel_rfl) Tryz.func6 (by kernel_rfl)
    (of_decide_eq_true (by kernel_rfl)) (by unfold Func.isWrapper; first | (rw [if_pos (by decide +kernel)]; kernel_rfl) | (rw [if_neg (by decide +kernel)]; exact ⟨rfl, rfl⟩))
    (fun os started H enc _ => worldLast_lifted os started H enc)

theorem worldLast_holds : Rows.WorldLastCardSaid :=
  Claim7.holds_tied_plain_at .later [] [.data] true (true, "dedd6cb34770d93af0edbf2928e7be5c3a09ebc128949375eb309686618b9df1") true
    worldLast_over (fun _ h => by cases h) (by kernel_rfl) (fun _ h => by cases h) worldLast_row_tie rfl ⟨rfl, rfl⟩ (by kernel_rfl) rfl
    (fun f fn hf hfn => by
      obtain rfl : f = 6 := Option.some.inj ((show Tryz.prog.funcNamed "vedette/vedettelaw12.WorldLast" = some 6 by kernel_rfl).symm.trans hf) |>.symm
      obtain rfl : fn = Tryz.f6 := (Option.some.inj (Tryz.func6.symm.trans hfn)).symm
      exact ⟨by kernel_rfl, fun j t ht => by
        rw [Tryz.params6] at ht
        have hm : t ∈ [52, 52] := by simpa using Array.mem_of_getElem? ht
        have hall : ([52, 52].all fun u => !Tryz.prog.wantsStandIn u) = true := by kernel_rfl
        exact (show Tryz.prog.wantsStandIn t = false by simpa using List.all_eq_true.1 hall t hm)⟩)
    (by kernel_rfl)
#print axioms worldLast_holds
end Go.Proofs.YtfoncphdbaaedaaGreatDoor
