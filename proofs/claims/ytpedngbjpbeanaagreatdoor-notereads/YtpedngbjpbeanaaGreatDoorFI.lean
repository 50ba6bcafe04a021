/- Contracts of IsDelta and what it stands on. -/
import Derived.Test.YtpedngbjpbeanaaGreatDoorFA
namespace Go.Proofs.YtpedngbjpbeanaaGreatDoor
section
open Go.RowKit
set_option linter.unusedVariables false
theorem index_f0 (W : World) (v0 v1 v2 v3 v4 v5 v6 v7 : Value) : (Instr.index 48 (.agg #[v0, v1, v2, v3, v4, v5, v6, v7]) (.int .i64 0)).run Tryz.prog W = .ok (.agg #[v0, v1]) W := by kernel_rfl
theorem index_f1 (W : World) (v0 v1 v2 v3 v4 v5 v6 v7 : Value) : (Instr.index 48 (.agg #[v0, v1, v2, v3, v4, v5, v6, v7]) (.int .i64 1)).run Tryz.prog W = .ok (.agg #[v2, v3]) W := by kernel_rfl
theorem index_f2 (W : World) (v0 v1 v2 v3 v4 v5 v6 v7 : Value) : (Instr.index 48 (.agg #[v0, v1, v2, v3, v4, v5, v6, v7]) (.int .i64 2)).run Tryz.prog W = .ok (.agg #[v4, v5]) W := by kernel_rfl
theorem index_f3 (W : World) (v0 v1 v2 v3 v4 v5 v6 v7 : Value) : (Instr.index 48 (.agg #[v0, v1, v2, v3, v4, v5, v6, v7]) (.int .i64 3)).run Tryz.prog W = .ok (.agg #[v6, v7]) W := by kernel_rfl
theorem dK_m (a b : Th) : ∀ k, (dK a b k).m < 2 ^ (k + 1)
  | 0 => by unfold dK; split <;> simp
  | k + 1 => by
    have ih := dK_m a b k
    have h2 : 2 ^ (k + 1) < 2 ^ (k + 1 + 1) := Nat.pow_lt_pow_right (by decide) (by omega)
    unfold dK
    split
    · omega
    · exact Nat.or_lt_two_pow (by omega) h2
theorem dK_m8 {a b : Th} {k : Nat} {D : Dl} (h : dK a b k = D) (hk : k ≤ 4) : D.m < 256 := by
  have := dK_m a b k
  have h2 : 2 ^ (k + 1) ≤ 2 ^ 5 := Nat.pow_le_pow_right (by decide) (by omega)
  rw [h] at this
  omega
theorem dK_same {a b : Th} {k : Nat} {D : Dl} (h : dK a b k = D) (hr : eqF (a.f k) (b.f k) = true) : dK a b (k + 1) = D := by
  rw [dK, if_pos hr, h]
theorem dK_next {a b : Th} {k : Nat} {D : Dl} (h : dK a b k = D) (hr : eqF (a.f k) (b.f k) = false) : dK a b (k + 1) = { D.set k (b.f k) with m := D.m ||| 2 ^ (k + 1) } := by
  rw [dK, if_neg (by rw [hr]; decide), h]
theorem below_set12 {B : Nat} {w w' : World} (h : Below B w w') {g : Nat} (hg : B ≤ g) (v0 v1 v2 v3 v4 v5 v6 v7 v8 v9 v10 v11 : Value) : Below B w ((((((((((((w'.setCell ⟨g, 0, none⟩ v0).setCell ⟨g, 1, none⟩ v1).setCell ⟨g, 2, none⟩ v2).setCell ⟨g, 3, none⟩ v3).setCell ⟨g, 4, none⟩ v4).setCell ⟨g, 5, none⟩ v5).setCell ⟨g, 6, none⟩ v6).setCell ⟨g, 7, none⟩ v7).setCell ⟨g, 8, none⟩ v8).setCell ⟨g, 9, none⟩ v9).setCell ⟨g, 10, none⟩ v10).setCell ⟨g, 11, none⟩ v11) :=
  (((((((((((h.setCell hg v0).setCell hg v1).setCell hg v2).setCell hg v3).setCell hg v4).setCell hg v5).setCell hg v6).setCell hg v7).setCell hg v8).setCell hg v9).setCell hg v10).setCell hg v11
theorem below_set11 {B : Nat} {w w' : World} (h : Below B w w') {g : Nat} (hg : B ≤ g) (v0 v1 v2 v3 v4 v5 v6 v7 v8 v9 v10 : Value) : Below B w (((((((((((w'.setCell ⟨g, 0, none⟩ v0).setCell ⟨g, 1, none⟩ v1).setCell ⟨g, 2, none⟩ v2).setCell ⟨g, 3, none⟩ v3).setCell ⟨g, 4, none⟩ v4).setCell ⟨g, 5, none⟩ v5).setCell ⟨g, 6, none⟩ v6).setCell ⟨g, 7, none⟩ v7).setCell ⟨g, 8, none⟩ v8).setCell ⟨g, 9, none⟩ v9).setCell ⟨g, 10, none⟩ v10) :=
  ((((((((((h.setCell hg v0).setCell hg v1).setCell hg v2).setCell hg v3).setCell hg v4).setCell hg v5).setCell hg v6).setCell hg v7).setCell hg v8).setCell hg v9).setCell hg v10
end
section
open Go.RowKit
set_option linter.unusedVariables false
theorem indexA_f0 (W : World) (v0 v1 v2 v3 v4 v5 v6 v7 : Value) : (Instr.index 48 (.agg #[v0, v1, v2, v3, v4, v5, v6, v7]) (.int .i64 0)).run Tryz.prog W = .ok (.agg #[v0, v1]) W := by kernel_rfl
theorem indexA_f1 (W : World) (v0 v1 v2 v3 v4 v5 v6 v7 : Value) : (Instr.index 48 (.agg #[v0, v1, v2, v3, v4, v5, v6, v7]) (.int .i64 1)).run Tryz.prog W = .ok (.agg #[v2, v3]) W := by kernel_rfl
theorem indexA_f2 (W : World) (v0 v1 v2 v3 v4 v5 v6 v7 : Value) : (Instr.index 48 (.agg #[v0, v1, v2, v3, v4, v5, v6, v7]) (.int .i64 2)).run Tryz.prog W = .ok (.agg #[v4, v5]) W := by kernel_rfl
theorem indexA_f3 (W : World) (v0 v1 v2 v3 v4 v5 v6 v7 : Value) : (Instr.index 48 (.agg #[v0, v1, v2, v3, v4, v5, v6, v7]) (.int .i64 3)).run Tryz.prog W = .ok (.agg #[v6, v7]) W := by kernel_rfl
def zT : Th := ⟨0, 0, 0, zF, zF, zF, zF⟩
theorem aK_same {t : Th} {d : Dl} {k : Nat} {T : Th} (h : aK t d k = T) (hr : d.m.testBit (k + 1) = false) : aK t d (k + 1) = T := by
  rw [aK, hr, h]; rfl
theorem aK_next {t : Th} {d : Dl} {k : Nat} {T : Th} (h : aK t d k = T) (hr : d.m.testBit (k + 1) = true) : aK t d (k + 1) = T.set k (d.f k) := by
  rw [aK, hr, h]; rfl
theorem has_at {m k : Nat} {r : Bool} (h : m.testBit k = r) (w : World) (hm : m ≤ 255) (hk : k ≤ 4) : Calls Tryz.prog 83 #[.int .u8 m, .int .i64 k] w fun e w' => e = .returned (.bool r) ∧ w' = w := by
  rw [← h]; exact fields_has w m k hm hk
theorem bit_ne (m k : Nat) (hm : m ≤ 255) : (bits .and .u8 ((m : Int) / 2 ^ k) 1 != 0) = m.testBit k := by
  have h := bit_at m k hm
  have e : ((m : Int) / 2 ^ k) = ((m / 2 ^ k : Nat) : Int) := by simp
  have h1 : m / 2 ^ k ≤ m := Nat.div_le_self _ _
  have h2 := u8_and_nat (m / 2 ^ k) 1 (by omega) (by omega)
  rw [← h, e, show (1 : Int) = ((1 : Nat) : Int) from rfl, h2, Nat.and_one_is_mod]
  rw [Bool.eq_iff_iff]
  simp
  omega
theorem bit_eq0 (m k : Nat) (hm : m ≤ 255) : (bits .and .u8 ((m : Int) / 2 ^ k) 1 == 0) = !m.testBit k := by
  have h := bit_ne m k hm
  rw [← h]
  simp [bne]
theorem below_setT {B : Nat} {w w' : World} (h : Below B w w') {g : Nat} (hg : B ≤ g) (v0 v1 v2 v3 v4 v5 v6 v7 v8 v9 v10 : Value) : Below B w (((((((((((w'.setCell ⟨g, 0, none⟩ v0).setCell ⟨g, 1, none⟩ v1).setCell ⟨g, 2, none⟩ v2).setCell ⟨g, 3, none⟩ v3).setCell ⟨g, 4, none⟩ v4).setCell ⟨g, 5, none⟩ v5).setCell ⟨g, 6, none⟩ v6).setCell ⟨g, 7, none⟩ v7).setCell ⟨g, 8, none⟩ v8).setCell ⟨g, 9, none⟩ v9).setCell ⟨g, 10, none⟩ v10) :=
  ((((((((((h.setCell hg v0).setCell hg v1).setCell hg v2).setCell hg v3).setCell hg v4).setCell hg v5).setCell hg v6).setCell hg v7).setCell hg v8).setCell hg v9).setCell hg v10
end
section
open Go.RowKit
set_option linter.unusedVariables false
def okf (d : Dl) (k : Nat) : Bool := isF (d.f k) && (d.m.testBit (k + 1) || eqF (d.f k) zF)
theorem isD_eq (d : Dl) : isD d = (decide (0 ≤ d.id) && decide (d.id ≤ 1000000) && decide (1 ≤ d.m) && decide (d.m ≤ 31) && onB d.x d.y && (d.m.testBit 0 || pEq d.x d.y 0 0) && (okf d 0 && (okf d 1 && (okf d 2 && (okf d 3 && true))))) := rfl
theorem isD_no1 {d : Dl} (h : ¬ (0 ≤ d.id ∧ d.id ≤ 1000000 ∧ 1 ≤ d.m ∧ d.m ≤ 31)) : isD d = false := by
  rw [isD_eq]
  cases hd : (decide (0 ≤ d.id) && decide (d.id ≤ 1000000) && decide (1 ≤ d.m) && decide (d.m ≤ 31))
  · simp
  · simp at hd; omega
theorem isD_no2 {d : Dl} (h : onB d.x d.y = false) : isD d = false := by rw [isD_eq, h]; simp
theorem isD_no3 {d : Dl} (h : d.m.testBit 0 = false) (h2 : pEq d.x d.y 0 0 = false) : isD d = false := by rw [isD_eq, h, h2]; simp
theorem isD_no4 {d : Dl} {k : Nat} (hk : k < 4) (h : okf d k = false) : isD d = false := by
  rw [isD_eq]
  obtain rfl | rfl | rfl | rfl : k = 0 ∨ k = 1 ∨ k = 2 ∨ k = 3 := by omega
  all_goals rw [h]; simp
theorem isD_yes {d : Dl} (h : 0 ≤ d.id ∧ d.id ≤ 1000000 ∧ 1 ≤ d.m ∧ d.m ≤ 31) (h1 : onB d.x d.y = true) (h2 : (d.m.testBit 0 || pEq d.x d.y 0 0) = true) (h3 : ∀ j, j < 4 → okf d j = true) : isD d = true := by
  rw [isD_eq, h1, h2, h3 0 (by omega), h3 1 (by omega), h3 2 (by omega), h3 3 (by omega)]
  simp [h]
theorem on_zero {x y : Int} (h : pEq x y 0 0 = true) : onB x y = true := by
  simp [pEq] at h
  obtain ⟨rfl, rfl⟩ := h
  rfl
theorem okf_step {d : Dl} {k : Nat} (h : ∀ j, j < k → okf d j = true) (hk : okf d k = true) : ∀ j, j < k + 1 → okf d j = true := fun j hj => by
  by_cases e : j = k
  · rw [e]; exact hk
  · exact h j (by omega)
theorem isF_at {f : Fl} {r : Bool} (h : isF f = r) (w : World) (hs : f.s.size ≤ maxLen) : Calls Tryz.prog 79 #[f.v] w fun e w' => e = .returned (.bool r) ∧ Below w.heap.size w w' := by
  rw [← h]; exact fields_isField w f hs
theorem refF_at {f : Fl} {r : Bool} (h : isF f = r) (w : World) (hs : f.s.size ≤ maxLen) : Calls Tryz.prog 56 #[f.v] w fun e w' => e = .returned (.bool r) ∧ Below w.heap.size w w' := by
  rw [← h]; exact ref_isField w f hs
theorem on_at {x y : Int} {r : Bool} (h : onB x y = r) (w : World) : Calls Tryz.prog 77 #[pt x y] w fun e w' => e = .returned (.bool r) ∧ Below w.heap.size w w' := by
  rw [← h]; exact geom_on w x y
theorem refOn_at {x y : Int} {r : Bool} (h : onB x y = r) (w : World) : Calls Tryz.prog 57 #[pt x y] w fun e w' => e = .returned (.bool r) ∧ Below w.heap.size w w' := by
  rw [← h]; exact ref_on w x y
theorem equal_fz {a : Fl} {q : Bool} (h : eqF a zF = q) (W : World) : (Op.equalIn 10000 47 a.v (.agg #[.int .i64 0, .string ⟨#[]⟩])).run Tryz.prog W = .ok q W := equal_fl_at (b := zF) h W
theorem equal_pz {x y : Int} {q : Bool} (h : pEq x y 0 0 = q) (W : World) : (Op.equalIn 10000 45 (.agg #[.int .i64 x, .int .i64 y]) (.agg #[.int .i64 0, .int .i64 0])).run Tryz.prog W = .ok q W := by rw [← h]; exact equal_pt W x y 0 0
theorem few_at {f : Fl} {r : Bool} (h : decide (f.s.size ≤ 40) = r) (w : World) (hs : f.s.size ≤ maxLen) : Calls Tryz.prog 68 #[f.v] w fun e w' => e = .returned (.bool r) ∧ Below w.heap.size w w' := by
  rw [← h]; exact few_field w f hs
set_option maxHeartbeats 4000000 in
theorem fields_isDelta (w : World) (d : Dl) (hm : d.m < 256) (hs : ∀ k, (d.f k).s.size ≤ maxLen) : Calls Tryz.prog 82 #[d.v] w fun e w' => e = .returned (.bool (isD d)) ∧ Below w.heap.size w w' := by
  by_cases hA : 0 ≤ d.id ∧ d.id ≤ 1000000 ∧ 1 ≤ d.m ∧ d.m ≤ 31
  · obtain ⟨a1, a2, a3, a4⟩ := hA
    have hA : Hid (0 ≤ d.id ∧ d.id ≤ 1000000 ∧ 1 ≤ d.m ∧ d.m ≤ 31) := ⟨a1, a2, a3, a4⟩
    have a3' : ((d.m : Int) == 0) = false := by simp; omega
    obtain ⟨o, ho⟩ : ∃ o, Hid (onB d.x d.y = o) := ⟨_, rfl⟩
    obtain ⟨q, hq⟩ : ∃ q, Hid (d.m.testBit 0 = q) := ⟨_, rfl⟩
    obtain ⟨z, hz⟩ : ∃ z, Hid (pEq d.x d.y 0 0 = z) := ⟨_, rfl⟩
    have hZ := equal_pz hz.out
    have K0 : Hid ((w.alloc d.o).heap[w.heap.size]? = some d.o) := new_at _ _ _ rfl
    go_enter Tryz.func82, Tryz.ntmps82
    go_wp2_with fail
    refine (on_at ho.out _).mono ?_
    rintro x w1 ⟨rfl, hb1⟩
    have k1 := var_on hb1 K0.out (at_lt K0.out)
    have hB := below_on (below1 w d.o) hb1
    have c1 := cells_at k1
    have l1 := at_lt k1
    have K1 : Hid (w1.heap[w.heap.size]? = some d.o) := k1
    clear k1 hb1 K0
    cases o
    · go_wp2_with fail
      go_ret; exact ⟨congrArg (fun x => Ending.returned (.bool x)) ((isD_no2 ho.out).symm), hB⟩
    · cases q
      · cases z
        · go_wp2_with fail
          refine (has_at (k := 0) hq.out _ (by omega) (by omega)).mono ?_
          rintro x w2 ⟨rfl, rfl⟩
          go_wp2_with fail
          go_ret; exact ⟨congrArg (fun x => Ending.returned (.bool x)) ((isD_no3 hq.out hz.out).symm), hB⟩
        · go_wp2_with fail
          refine (has_at (k := 0) hq.out _ (by omega) (by omega)).mono ?_
          rintro x w2 ⟨rfl, rfl⟩
          go_wp2_with fail
          have hon := ho.out
          have hpz : (d.m.testBit 0 || pEq d.x d.y 0 0) = true := by rw [hz.out]; simp
          have hon : Hid (onB d.x d.y = true) := hon
          go_loopw [41] (fun i wr => ∃ k : Nat, k ≤ 4 ∧ i = .int .i64 k ∧ wr.heap[w.heap.size]? = some d.o ∧ (∀ j, j < k → okf d j = true) ∧ Below w.heap.size w wr) (fun i _ => 4 - (intOf i).toNat)
          case atStart => exact ⟨0, by omega, rfl, K1.out, fun j hj => by omega, hB⟩
          case round =>
            clear hB c1 l1 K1
            obtain ⟨k, hk, rfl, h0, hok, hb⟩ := hrel
            have l0 := at_lt h0
            have c0 := cells_at h0
            have H0 : Hid (wr.heap[w.heap.size]? = some d.o) := h0
            have HO : Hid (∀ j, j < k → okf d j = true) := hok
            clear h0 hok
            obtain rfl | rfl | rfl | rfl | rfl : k = 0 ∨ k = 1 ∨ k = 2 ∨ k = 3 ∨ k = 4 := by omega
            · have hI := indexA_f0
              obtain ⟨p, hp⟩ : ∃ p, Hid (isF d.f0 = p) := ⟨_, rfl⟩
              obtain ⟨r, hr⟩ : ∃ r, Hid (d.m.testBit 1 = r) := ⟨_, rfl⟩
              obtain ⟨z, hz⟩ : ∃ z, Hid (eqF d.f0 zF = z) := ⟨_, rfl⟩
              have hZ := equal_fz hz.out
              have ho : Hid (okf d 0 = (p && (r || z))) := by show okf d 0 = _; rw [← hp.out, ← hr.out, ← hz.out]; rfl
              go_wp2_with fail
              obtain ⟨W1, hW1⟩ : ∃ W1, W1 = wr.alloc d.f0.o := ⟨_, rfl⟩
              have K0 : Hid (W1.heap[w.heap.size]? = some d.o) := by rw [hW1]; exact old_at H0.out _
              have K2 : Hid (W1.heap[wr.heap.size]? = some d.f0.o) := by rw [hW1]; exact new_at _ _ _ rfl
              have hB1 : Below w.heap.size w W1 := by rw [hW1]; exact hb.alloc (by omega) _
              rw [← hW1]
              clear hW1 c0
              refine (isF_at hp.out _ (hs 0)).mono ?_
              rintro x w2 ⟨rfl, hb2⟩
              have k0 := var_on hb2 K0.out (at_lt K0.out)
              have k2 := var_on hb2 K2.out (at_lt K2.out)
              have hB2 := below_on hB1 hb2
              have e0 := cells_at k0
              have e2 := cells_at k2
              have KK : Hid (w2.heap[w.heap.size]? = some d.o) := k0
              clear k0 k2 K0 K2 hb2 hB1
              cases p
              · go_wp2_with fail
                go_ret; exact ⟨congrArg (fun x => Ending.returned (.bool x)) ((isD_no4 (k := 0) (by omega) ho.out).symm), hB2⟩
              · cases r
                · cases z
                  · go_wp2_with fail
                    refine (has_at (k := 1) hr.out _ (by omega) (by omega)).mono ?_
                    rintro x w3 ⟨rfl, rfl⟩
                    go_wp2_with fail
                    go_ret; exact ⟨congrArg (fun x => Ending.returned (.bool x)) ((isD_no4 (k := 0) (by omega) ho.out).symm), hB2⟩
                  · go_wp2_with fail
                    refine (has_at (k := 1) hr.out _ (by omega) (by omega)).mono ?_
                    rintro x w3 ⟨rfl, rfl⟩
                    go_wp2_with fail
                    first | go_roundw | refine ⟨?rel, ?measure⟩
                    case rel => exact ⟨1, by omega, rfl, KK.out, okf_step HO.out ho.out, hB2⟩
                    case measure => simp [intOf]
                · go_wp2_with fail
                  refine (has_at (k := 1) hr.out _ (by omega) (by omega)).mono ?_
                  rintro x w3 ⟨rfl, rfl⟩
                  go_wp2_with fail
                  first | go_roundw | refine ⟨?rel, ?measure⟩
                  case rel => exact ⟨1, by omega, rfl, KK.out, okf_step HO.out ho.out, hB2⟩
                  case measure => simp [intOf]
            · have hI := indexA_f1
              obtain ⟨p, hp⟩ : ∃ p, Hid (isF d.f1 = p) := ⟨_, rfl⟩
              obtain ⟨r, hr⟩ : ∃ r, Hid (d.m.testBit 2 = r) := ⟨_, rfl⟩
              obtain ⟨z, hz⟩ : ∃ z, Hid (eqF d.f1 zF = z) := ⟨_, rfl⟩
              have hZ := equal_fz hz.out
              have ho : Hid (okf d 1 = (p && (r || z))) := by show okf d 1 = _; rw [← hp.out, ← hr.out, ← hz.out]; rfl
              go_wp2_with fail
              obtain ⟨W1, hW1⟩ : ∃ W1, W1 = wr.alloc d.f1.o := ⟨_, rfl⟩
              have K0 : Hid (W1.heap[w.heap.size]? = some d.o) := by rw [hW1]; exact old_at H0.out _
              have K2 : Hid (W1.heap[wr.heap.size]? = some d.f1.o) := by rw [hW1]; exact new_at _ _ _ rfl
              have hB1 : Below w.heap.size w W1 := by rw [hW1]; exact hb.alloc (by omega) _
              rw [← hW1]
              clear hW1 c0
              refine (isF_at hp.out _ (hs 1)).mono ?_
              rintro x w2 ⟨rfl, hb2⟩
              have k0 := var_on hb2 K0.out (at_lt K0.out)
              have k2 := var_on hb2 K2.out (at_lt K2.out)
              have hB2 := below_on hB1 hb2
              have e0 := cells_at k0
              have e2 := cells_at k2
              have KK : Hid (w2.heap[w.heap.size]? = some d.o) := k0
              clear k0 k2 K0 K2 hb2 hB1
              cases p
              · go_wp2_with fail
                go_ret; exact ⟨congrArg (fun x => Ending.returned (.bool x)) ((isD_no4 (k := 1) (by omega) ho.out).symm), hB2⟩
              · cases r
                · cases z
                  · go_wp2_with fail
                    refine (has_at (k := 2) hr.out _ (by omega) (by omega)).mono ?_
                    rintro x w3 ⟨rfl, rfl⟩
                    go_wp2_with fail
                    go_ret; exact ⟨congrArg (fun x => Ending.returned (.bool x)) ((isD_no4 (k := 1) (by omega) ho.out).symm), hB2⟩
                  · go_wp2_with fail
                    refine (has_at (k := 2) hr.out _ (by omega) (by omega)).mono ?_
                    rintro x w3 ⟨rfl, rfl⟩
                    go_wp2_with fail
                    first | go_roundw | refine ⟨?rel, ?measure⟩
                    case rel => exact ⟨2, by omega, rfl, KK.out, okf_step HO.out ho.out, hB2⟩
                    case measure => simp [intOf]
                · go_wp2_with fail
                  refine (has_at (k := 2) hr.out _ (by omega) (by omega)).mono ?_
                  rintro x w3 ⟨rfl, rfl⟩
                  go_wp2_with fail
                  first | go_roundw | refine ⟨?rel, ?measure⟩
                  case rel => exact ⟨2, by omega, rfl, KK.out, okf_step HO.out ho.out, hB2⟩
                  case measure => simp [intOf]
            · have hI := indexA_f2
              obtain ⟨p, hp⟩ : ∃ p, Hid (isF d.f2 = p) := ⟨_, rfl⟩
              obtain ⟨r, hr⟩ : ∃ r, Hid (d.m.testBit 3 = r) := ⟨_, rfl⟩
              obtain ⟨z, hz⟩ : ∃ z, Hid (eqF d.f2 zF = z) := ⟨_, rfl⟩
              have hZ := equal_fz hz.out
              have ho : Hid (okf d 2 = (p && (r || z))) := by show okf d 2 = _; rw [← hp.out, ← hr.out, ← hz.out]; rfl
              go_wp2_with fail
              obtain ⟨W1, hW1⟩ : ∃ W1, W1 = wr.alloc d.f2.o := ⟨_, rfl⟩
              have K0 : Hid (W1.heap[w.heap.size]? = some d.o) := by rw [hW1]; exact old_at H0.out _
              have K2 : Hid (W1.heap[wr.heap.size]? = some d.f2.o) := by rw [hW1]; exact new_at _ _ _ rfl
              have hB1 : Below w.heap.size w W1 := by rw [hW1]; exact hb.alloc (by omega) _
              rw [← hW1]
              clear hW1 c0
              refine (isF_at hp.out _ (hs 2)).mono ?_
              rintro x w2 ⟨rfl, hb2⟩
              have k0 := var_on hb2 K0.out (at_lt K0.out)
              have k2 := var_on hb2 K2.out (at_lt K2.out)
              have hB2 := below_on hB1 hb2
              have e0 := cells_at k0
              have e2 := cells_at k2
              have KK : Hid (w2.heap[w.heap.size]? = some d.o) := k0
              clear k0 k2 K0 K2 hb2 hB1
              cases p
              · go_wp2_with fail
                go_ret; exact ⟨congrArg (fun x => Ending.returned (.bool x)) ((isD_no4 (k := 2) (by omega) ho.out).symm), hB2⟩
              · cases r
                · cases z
                  · go_wp2_with fail
                    refine (has_at (k := 3) hr.out _ (by omega) (by omega)).mono ?_
                    rintro x w3 ⟨rfl, rfl⟩
                    go_wp2_with fail
                    go_ret; exact ⟨congrArg (fun x => Ending.returned (.bool x)) ((isD_no4 (k := 2) (by omega) ho.out).symm), hB2⟩
                  · go_wp2_with fail
                    refine (has_at (k := 3) hr.out _ (by omega) (by omega)).mono ?_
                    rintro x w3 ⟨rfl, rfl⟩
                    go_wp2_with fail
                    first | go_roundw | refine ⟨?rel, ?measure⟩
                    case rel => exact ⟨3, by omega, rfl, KK.out, okf_step HO.out ho.out, hB2⟩
                    case measure => simp [intOf]
                · go_wp2_with fail
                  refine (has_at (k := 3) hr.out _ (by omega) (by omega)).mono ?_
                  rintro x w3 ⟨rfl, rfl⟩
                  go_wp2_with fail
                  first | go_roundw | refine ⟨?rel, ?measure⟩
                  case rel => exact ⟨3, by omega, rfl, KK.out, okf_step HO.out ho.out, hB2⟩
                  case measure => simp [intOf]
            · have hI := indexA_f3
              obtain ⟨p, hp⟩ : ∃ p, Hid (isF d.f3 = p) := ⟨_, rfl⟩
              obtain ⟨r, hr⟩ : ∃ r, Hid (d.m.testBit 4 = r) := ⟨_, rfl⟩
              obtain ⟨z, hz⟩ : ∃ z, Hid (eqF d.f3 zF = z) := ⟨_, rfl⟩
              have hZ := equal_fz hz.out
              have ho : Hid (okf d 3 = (p && (r || z))) := by show okf d 3 = _; rw [← hp.out, ← hr.out, ← hz.out]; rfl
              go_wp2_with fail
              obtain ⟨W1, hW1⟩ : ∃ W1, W1 = wr.alloc d.f3.o := ⟨_, rfl⟩
              have K0 : Hid (W1.heap[w.heap.size]? = some d.o) := by rw [hW1]; exact old_at H0.out _
              have K2 : Hid (W1.heap[wr.heap.size]? = some d.f3.o) := by rw [hW1]; exact new_at _ _ _ rfl
              have hB1 : Below w.heap.size w W1 := by rw [hW1]; exact hb.alloc (by omega) _
              rw [← hW1]
              clear hW1 c0
              refine (isF_at hp.out _ (hs 3)).mono ?_
              rintro x w2 ⟨rfl, hb2⟩
              have k0 := var_on hb2 K0.out (at_lt K0.out)
              have k2 := var_on hb2 K2.out (at_lt K2.out)
              have hB2 := below_on hB1 hb2
              have e0 := cells_at k0
              have e2 := cells_at k2
              have KK : Hid (w2.heap[w.heap.size]? = some d.o) := k0
              clear k0 k2 K0 K2 hb2 hB1
              cases p
              · go_wp2_with fail
                go_ret; exact ⟨congrArg (fun x => Ending.returned (.bool x)) ((isD_no4 (k := 3) (by omega) ho.out).symm), hB2⟩
              · cases r
                · cases z
                  · go_wp2_with fail
                    refine (has_at (k := 4) hr.out _ (by omega) (by omega)).mono ?_
                    rintro x w3 ⟨rfl, rfl⟩
                    go_wp2_with fail
                    go_ret; exact ⟨congrArg (fun x => Ending.returned (.bool x)) ((isD_no4 (k := 3) (by omega) ho.out).symm), hB2⟩
                  · go_wp2_with fail
                    refine (has_at (k := 4) hr.out _ (by omega) (by omega)).mono ?_
                    rintro x w3 ⟨rfl, rfl⟩
                    go_wp2_with fail
                    first | go_roundw | refine ⟨?rel, ?measure⟩
                    case rel => exact ⟨4, by omega, rfl, KK.out, okf_step HO.out ho.out, hB2⟩
                    case measure => simp [intOf]
                · go_wp2_with fail
                  refine (has_at (k := 4) hr.out _ (by omega) (by omega)).mono ?_
                  rintro x w3 ⟨rfl, rfl⟩
                  go_wp2_with fail
                  first | go_roundw | refine ⟨?rel, ?measure⟩
                  case rel => exact ⟨4, by omega, rfl, KK.out, okf_step HO.out ho.out, hB2⟩
                  case measure => simp [intOf]
            · go_wp2_with fail
              go_ret; exact ⟨congrArg (fun x => Ending.returned (.bool x)) ((isD_yes hA.out hon.out (by rw [hz.out]; simp) HO.out).symm), hb⟩
      · go_wp2_with fail
        refine (has_at (k := 0) hq.out _ (by omega) (by omega)).mono ?_
        rintro x w2 ⟨rfl, rfl⟩
        go_wp2_with fail
        go_loopw [41] (fun i wr => ∃ k : Nat, k ≤ 4 ∧ i = .int .i64 k ∧ wr.heap[w.heap.size]? = some d.o ∧ (∀ j, j < k → okf d j = true) ∧ Below w.heap.size w wr) (fun i _ => 4 - (intOf i).toNat)
        case atStart => exact ⟨0, by omega, rfl, K1.out, fun j hj => by omega, hB⟩
        case round =>
          clear hB c1 l1 K1
          obtain ⟨k, hk, rfl, h0, hok, hb⟩ := hrel
          have l0 := at_lt h0
          have c0 := cells_at h0
          have H0 : Hid (wr.heap[w.heap.size]? = some d.o) := h0
          have HO : Hid (∀ j, j < k → okf d j = true) := hok
          clear h0 hok
          obtain rfl | rfl | rfl | rfl | rfl : k = 0 ∨ k = 1 ∨ k = 2 ∨ k = 3 ∨ k = 4 := by omega
          · have hI := indexA_f0
            obtain ⟨p, hp⟩ : ∃ p, Hid (isF d.f0 = p) := ⟨_, rfl⟩
            obtain ⟨r, hr⟩ : ∃ r, Hid (d.m.testBit 1 = r) := ⟨_, rfl⟩
            obtain ⟨z, hz⟩ : ∃ z, Hid (eqF d.f0 zF = z) := ⟨_, rfl⟩
            have hZ := equal_fz hz.out
            have ho : Hid (okf d 0 = (p && (r || z))) := by show okf d 0 = _; rw [← hp.out, ← hr.out, ← hz.out]; rfl
            go_wp2_with fail
            obtain ⟨W1, hW1⟩ : ∃ W1, W1 = wr.alloc d.f0.o := ⟨_, rfl⟩
            have K0 : Hid (W1.heap[w.heap.size]? = some d.o) := by rw [hW1]; exact old_at H0.out _
            have K2 : Hid (W1.heap[wr.heap.size]? = some d.f0.o) := by rw [hW1]; exact new_at _ _ _ rfl
            have hB1 : Below w.heap.size w W1 := by rw [hW1]; exact hb.alloc (by omega) _
            rw [← hW1]
            clear hW1 c0
            refine (isF_at hp.out _ (hs 0)).mono ?_
            rintro x w2 ⟨rfl, hb2⟩
            have k0 := var_on hb2 K0.out (at_lt K0.out)
            have k2 := var_on hb2 K2.out (at_lt K2.out)
            have hB2 := below_on hB1 hb2
            have e0 := cells_at k0
            have e2 := cells_at k2
            have KK : Hid (w2.heap[w.heap.size]? = some d.o) := k0
            clear k0 k2 K0 K2 hb2 hB1
            cases p
            · go_wp2_with fail
              go_ret; exact ⟨congrArg (fun x => Ending.returned (.bool x)) ((isD_no4 (k := 0) (by omega) ho.out).symm), hB2⟩
            · cases r
              · cases z
                · go_wp2_with fail
                  refine (has_at (k := 1) hr.out _ (by omega) (by omega)).mono ?_
                  rintro x w3 ⟨rfl, rfl⟩
                  go_wp2_with fail
                  go_ret; exact ⟨congrArg (fun x => Ending.returned (.bool x)) ((isD_no4 (k := 0) (by omega) ho.out).symm), hB2⟩
                · go_wp2_with fail
                  refine (has_at (k := 1) hr.out _ (by omega) (by omega)).mono ?_
                  rintro x w3 ⟨rfl, rfl⟩
                  go_wp2_with fail
                  first | go_roundw | refine ⟨?rel, ?measure⟩
                  case rel => exact ⟨1, by omega, rfl, KK.out, okf_step HO.out ho.out, hB2⟩
                  case measure => simp [intOf]
              · go_wp2_with fail
                refine (has_at (k := 1) hr.out _ (by omega) (by omega)).mono ?_
                rintro x w3 ⟨rfl, rfl⟩
                go_wp2_with fail
                first | go_roundw | refine ⟨?rel, ?measure⟩
                case rel => exact ⟨1, by omega, rfl, KK.out, okf_step HO.out ho.out, hB2⟩
                case measure => simp [intOf]
          · have hI := indexA_f1
            obtain ⟨p, hp⟩ : ∃ p, Hid (isF d.f1 = p) := ⟨_, rfl⟩
            obtain ⟨r, hr⟩ : ∃ r, Hid (d.m.testBit 2 = r) := ⟨_, rfl⟩
            obtain ⟨z, hz⟩ : ∃ z, Hid (eqF d.f1 zF = z) := ⟨_, rfl⟩
            have hZ := equal_fz hz.out
            have ho : Hid (okf d 1 = (p && (r || z))) := by show okf d 1 = _; rw [← hp.out, ← hr.out, ← hz.out]; rfl
            go_wp2_with fail
            obtain ⟨W1, hW1⟩ : ∃ W1, W1 = wr.alloc d.f1.o := ⟨_, rfl⟩
            have K0 : Hid (W1.heap[w.heap.size]? = some d.o) := by rw [hW1]; exact old_at H0.out _
            have K2 : Hid (W1.heap[wr.heap.size]? = some d.f1.o) := by rw [hW1]; exact new_at _ _ _ rfl
            have hB1 : Below w.heap.size w W1 := by rw [hW1]; exact hb.alloc (by omega) _
            rw [← hW1]
            clear hW1 c0
            refine (isF_at hp.out _ (hs 1)).mono ?_
            rintro x w2 ⟨rfl, hb2⟩
            have k0 := var_on hb2 K0.out (at_lt K0.out)
            have k2 := var_on hb2 K2.out (at_lt K2.out)
            have hB2 := below_on hB1 hb2
            have e0 := cells_at k0
            have e2 := cells_at k2
            have KK : Hid (w2.heap[w.heap.size]? = some d.o) := k0
            clear k0 k2 K0 K2 hb2 hB1
            cases p
            · go_wp2_with fail
              go_ret; exact ⟨congrArg (fun x => Ending.returned (.bool x)) ((isD_no4 (k := 1) (by omega) ho.out).symm), hB2⟩
            · cases r
              · cases z
                · go_wp2_with fail
                  refine (has_at (k := 2) hr.out _ (by omega) (by omega)).mono ?_
                  rintro x w3 ⟨rfl, rfl⟩
                  go_wp2_with fail
                  go_ret; exact ⟨congrArg (fun x => Ending.returned (.bool x)) ((isD_no4 (k := 1) (by omega) ho.out).symm), hB2⟩
                · go_wp2_with fail
                  refine (has_at (k := 2) hr.out _ (by omega) (by omega)).mono ?_
                  rintro x w3 ⟨rfl, rfl⟩
                  go_wp2_with fail
                  first | go_roundw | refine ⟨?rel, ?measure⟩
                  case rel => exact ⟨2, by omega, rfl, KK.out, okf_step HO.out ho.out, hB2⟩
                  case measure => simp [intOf]
              · go_wp2_with fail
                refine (has_at (k := 2) hr.out _ (by omega) (by omega)).mono ?_
                rintro x w3 ⟨rfl, rfl⟩
                go_wp2_with fail
                first | go_roundw | refine ⟨?rel, ?measure⟩
                case rel => exact ⟨2, by omega, rfl, KK.out, okf_step HO.out ho.out, hB2⟩
                case measure => simp [intOf]
          · have hI := indexA_f2
            obtain ⟨p, hp⟩ : ∃ p, Hid (isF d.f2 = p) := ⟨_, rfl⟩
            obtain ⟨r, hr⟩ : ∃ r, Hid (d.m.testBit 3 = r) := ⟨_, rfl⟩
            obtain ⟨z, hz⟩ : ∃ z, Hid (eqF d.f2 zF = z) := ⟨_, rfl⟩
            have hZ := equal_fz hz.out
            have ho : Hid (okf d 2 = (p && (r || z))) := by show okf d 2 = _; rw [← hp.out, ← hr.out, ← hz.out]; rfl
            go_wp2_with fail
            obtain ⟨W1, hW1⟩ : ∃ W1, W1 = wr.alloc d.f2.o := ⟨_, rfl⟩
            have K0 : Hid (W1.heap[w.heap.size]? = some d.o) := by rw [hW1]; exact old_at H0.out _
            have K2 : Hid (W1.heap[wr.heap.size]? = some d.f2.o) := by rw [hW1]; exact new_at _ _ _ rfl
            have hB1 : Below w.heap.size w W1 := by rw [hW1]; exact hb.alloc (by omega) _
            rw [← hW1]
            clear hW1 c0
            refine (isF_at hp.out _ (hs 2)).mono ?_
            rintro x w2 ⟨rfl, hb2⟩
            have k0 := var_on hb2 K0.out (at_lt K0.out)
            have k2 := var_on hb2 K2.out (at_lt K2.out)
            have hB2 := below_on hB1 hb2
            have e0 := cells_at k0
            have e2 := cells_at k2
            have KK : Hid (w2.heap[w.heap.size]? = some d.o) := k0
            clear k0 k2 K0 K2 hb2 hB1
            cases p
            · go_wp2_with fail
              go_ret; exact ⟨congrArg (fun x => Ending.returned (.bool x)) ((isD_no4 (k := 2) (by omega) ho.out).symm), hB2⟩
            · cases r
              · cases z
                · go_wp2_with fail
                  refine (has_at (k := 3) hr.out _ (by omega) (by omega)).mono ?_
                  rintro x w3 ⟨rfl, rfl⟩
                  go_wp2_with fail
                  go_ret; exact ⟨congrArg (fun x => Ending.returned (.bool x)) ((isD_no4 (k := 2) (by omega) ho.out).symm), hB2⟩
                · go_wp2_with fail
                  refine (has_at (k := 3) hr.out _ (by omega) (by omega)).mono ?_
                  rintro x w3 ⟨rfl, rfl⟩
                  go_wp2_with fail
                  first | go_roundw | refine ⟨?rel, ?measure⟩
                  case rel => exact ⟨3, by omega, rfl, KK.out, okf_step HO.out ho.out, hB2⟩
                  case measure => simp [intOf]
              · go_wp2_with fail
                refine (has_at (k := 3) hr.out _ (by omega) (by omega)).mono ?_
                rintro x w3 ⟨rfl, rfl⟩
                go_wp2_with fail
                first | go_roundw | refine ⟨?rel, ?measure⟩
                case rel => exact ⟨3, by omega, rfl, KK.out, okf_step HO.out ho.out, hB2⟩
                case measure => simp [intOf]
          · have hI := indexA_f3
            obtain ⟨p, hp⟩ : ∃ p, Hid (isF d.f3 = p) := ⟨_, rfl⟩
            obtain ⟨r, hr⟩ : ∃ r, Hid (d.m.testBit 4 = r) := ⟨_, rfl⟩
            obtain ⟨z, hz⟩ : ∃ z, Hid (eqF d.f3 zF = z) := ⟨_, rfl⟩
            have hZ := equal_fz hz.out
            have ho : Hid (okf d 3 = (p && (r || z))) := by show okf d 3 = _; rw [← hp.out, ← hr.out, ← hz.out]; rfl
            go_wp2_with fail
            obtain ⟨W1, hW1⟩ : ∃ W1, W1 = wr.alloc d.f3.o := ⟨_, rfl⟩
            have K0 : Hid (W1.heap[w.heap.size]? = some d.o) := by rw [hW1]; exact old_at H0.out _
            have K2 : Hid (W1.heap[wr.heap.size]? = some d.f3.o) := by rw [hW1]; exact new_at _ _ _ rfl
            have hB1 : Below w.heap.size w W1 := by rw [hW1]; exact hb.alloc (by omega) _
            rw [← hW1]
            clear hW1 c0
            refine (isF_at hp.out _ (hs 3)).mono ?_
            rintro x w2 ⟨rfl, hb2⟩
            have k0 := var_on hb2 K0.out (at_lt K0.out)
            have k2 := var_on hb2 K2.out (at_lt K2.out)
            have hB2 := below_on hB1 hb2
            have e0 := cells_at k0
            have e2 := cells_at k2
            have KK : Hid (w2.heap[w.heap.size]? = some d.o) := k0
            clear k0 k2 K0 K2 hb2 hB1
            cases p
            · go_wp2_with fail
              go_ret; exact ⟨congrArg (fun x => Ending.returned (.bool x)) ((isD_no4 (k := 3) (by omega) ho.out).symm), hB2⟩
            · cases r
              · cases z
                · go_wp2_with fail
                  refine (has_at (k := 4) hr.out _ (by omega) (by omega)).mono ?_
                  rintro x w3 ⟨rfl, rfl⟩
                  go_wp2_with fail
                  go_ret; exact ⟨congrArg (fun x => Ending.returned (.bool x)) ((isD_no4 (k := 3) (by omega) ho.out).symm), hB2⟩
                · go_wp2_with fail
                  refine (has_at (k := 4) hr.out _ (by omega) (by omega)).mono ?_
                  rintro x w3 ⟨rfl, rfl⟩
                  go_wp2_with fail
                  first | go_roundw | refine ⟨?rel, ?measure⟩
                  case rel => exact ⟨4, by omega, rfl, KK.out, okf_step HO.out ho.out, hB2⟩
                  case measure => simp [intOf]
              · go_wp2_with fail
                refine (has_at (k := 4) hr.out _ (by omega) (by omega)).mono ?_
                rintro x w3 ⟨rfl, rfl⟩
                go_wp2_with fail
                first | go_roundw | refine ⟨?rel, ?measure⟩
                case rel => exact ⟨4, by omega, rfl, KK.out, okf_step HO.out ho.out, hB2⟩
                case measure => simp [intOf]
          · go_wp2_with fail
            go_ret; exact ⟨congrArg (fun x => Ending.returned (.bool x)) ((isD_yes hA.out ho.out (by rw [hq.out]; simp) HO.out).symm), hb⟩
  · have hno := isD_no1 hA
    rw [hno]
    go_enter Tryz.func82, Tryz.ntmps82
    go_wp2_with fail
    all_goals first | (exfalso; simp_all <;> omega) | (go_ret; exact ⟨rfl, below1 _ _⟩)
end
end Go.Proofs.YtpedngbjpbeanaaGreatDoor
