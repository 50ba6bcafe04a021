/- Contracts of Diff, of the package fields and of the reference: what changed of two things. -/
import Derived.Test.YtjdlcocncacmlaaFA
namespace Go.Proofs.Ytjdlcocncacmlaa
open Go.RowKit
set_option linter.unusedVariables false
theorem index_f0 (W : World) (v0 v1 v2 v3 v4 v5 v6 v7 : Value) : (Instr.index 38 (.agg #[v0, v1, v2, v3, v4, v5, v6, v7]) (.int .i64 0)).run Try.prog W = .ok (.agg #[v0, v1]) W := by kernel_rfl
theorem index_f1 (W : World) (v0 v1 v2 v3 v4 v5 v6 v7 : Value) : (Instr.index 38 (.agg #[v0, v1, v2, v3, v4, v5, v6, v7]) (.int .i64 1)).run Try.prog W = .ok (.agg #[v2, v3]) W := by kernel_rfl
theorem index_f2 (W : World) (v0 v1 v2 v3 v4 v5 v6 v7 : Value) : (Instr.index 38 (.agg #[v0, v1, v2, v3, v4, v5, v6, v7]) (.int .i64 2)).run Try.prog W = .ok (.agg #[v4, v5]) W := by kernel_rfl
theorem index_f3 (W : World) (v0 v1 v2 v3 v4 v5 v6 v7 : Value) : (Instr.index 38 (.agg #[v0, v1, v2, v3, v4, v5, v6, v7]) (.int .i64 3)).run Try.prog W = .ok (.agg #[v6, v7]) W := by kernel_rfl
theorem dK_m (a b : Th) : ∀ k, (dK a b k).m < 2 ^ (k + 1)
  | 0 => by unfold dK; split <;> simp
  | k + 1 => by
    have ih := dK_m a b k
    have h2 : 2 ^ (k + 1) < 2 ^ (k + 1 + 1) := Nat.pow_lt_pow_right (by decide) (by omega)
    unfold dK
    split
    · omega
    · exact Nat.or_lt_two_pow (by omega) h2
theorem dK_m8 {a b : Th} {k : Nat} {D : Dl} (h : dK a b k = D) (hk : k ≤ 4) : D.m < 256 := by
  have := dK_m a b k
  have h2 : 2 ^ (k + 1) ≤ 2 ^ 5 := Nat.pow_le_pow_right (by decide) (by omega)
  rw [h] at this
  omega
theorem dK_same {a b : Th} {k : Nat} {D : Dl} (h : dK a b k = D) (hr : eqF (a.f k) (b.f k) = true) : dK a b (k + 1) = D := by
  rw [dK, if_pos hr, h]
theorem dK_next {a b : Th} {k : Nat} {D : Dl} (h : dK a b k = D) (hr : eqF (a.f k) (b.f k) = false) : dK a b (k + 1) = { D.set k (b.f k) with m := D.m ||| 2 ^ (k + 1) } := by
  rw [dK, if_neg (by rw [hr]; decide), h]
theorem below_set12 {B : Nat} {w w' : World} (h : Below B w w') {g : Nat} (hg : B ≤ g) (v0 v1 v2 v3 v4 v5 v6 v7 v8 v9 v10 v11 : Value) : Below B w ((((((((((((w'.setCell ⟨g, 0, none⟩ v0).setCell ⟨g, 1, none⟩ v1).setCell ⟨g, 2, none⟩ v2).setCell ⟨g, 3, none⟩ v3).setCell ⟨g, 4, none⟩ v4).setCell ⟨g, 5, none⟩ v5).setCell ⟨g, 6, none⟩ v6).setCell ⟨g, 7, none⟩ v7).setCell ⟨g, 8, none⟩ v8).setCell ⟨g, 9, none⟩ v9).setCell ⟨g, 10, none⟩ v10).setCell ⟨g, 11, none⟩ v11) :=
  (((((((((((h.setCell hg v0).setCell hg v1).setCell hg v2).setCell hg v3).setCell hg v4).setCell hg v5).setCell hg v6).setCell hg v7).setCell hg v8).setCell hg v9).setCell hg v10).setCell hg v11
theorem below_set11 {B : Nat} {w w' : World} (h : Below B w w') {g : Nat} (hg : B ≤ g) (v0 v1 v2 v3 v4 v5 v6 v7 v8 v9 v10 : Value) : Below B w (((((((((((w'.setCell ⟨g, 0, none⟩ v0).setCell ⟨g, 1, none⟩ v1).setCell ⟨g, 2, none⟩ v2).setCell ⟨g, 3, none⟩ v3).setCell ⟨g, 4, none⟩ v4).setCell ⟨g, 5, none⟩ v5).setCell ⟨g, 6, none⟩ v6).setCell ⟨g, 7, none⟩ v7).setCell ⟨g, 8, none⟩ v8).setCell ⟨g, 9, none⟩ v9).setCell ⟨g, 10, none⟩ v10) :=
  ((((((((((h.setCell hg v0).setCell hg v1).setCell hg v2).setCell hg v3).setCell hg v4).setCell hg v5).setCell hg v6).setCell hg v7).setCell hg v8).setCell hg v9).setCell hg v10
set_option maxHeartbeats 2000000 in
theorem fields_diff (w : World) (a b : Th) : Calls Try.prog 23 #[a.v, b.v] w fun e w' => e = .returned (.tuple #[(diff a b).1.v, .bool (diff a b).2]) ∧ Below w.heap.size w w' := by
  obtain ⟨q, hq⟩ : ∃ q, pEq a.x a.y b.x b.y = q := ⟨_, rfl⟩
  have hQ : ∀ W : World, (Op.equalIn 10000 35 (pt a.x a.y) (pt b.x b.y)).run Try.prog W = .ok q W := fun W => by rw [← hq]; exact equal_pt W _ _ _ _
  unfold pt at hQ
  go_enter Try.func23, Try.ntmps23
  cases q
  · go_wp2_with fail
    have hor : bits .or .u8 0 1 = 1 := by decide
    simp only [hor]
    go_loopw [26] (fun i wr => ∃ k : Nat, k ≤ 4 ∧ i = .int .i64 k ∧ wr.heap[w.heap.size]? = some a.o ∧ wr.heap[w.heap.size + 1]? = some b.o ∧ wr.heap[w.heap.size + 1 + 1]? = some zD.o ∧ wr.heap[w.heap.size + 1 + 1 + 1]? = some (dK a b k).o ∧ Below w.heap.size w wr) (fun i _ => 4 - (intOf i).toNat)
    case atStart =>
      refine ⟨0, by omega, rfl, ?_, ?_, ?_, ?_, ?_⟩
      · exact old_at (old_at (old_at (new_at _ _ _ rfl) _) _) _
      · exact old_at (old_at (new_at _ _ _ (by simp)) _) _
      · exact old_at (new_at _ _ _ (by simp)) _
      · refine (new_at _ _ _ (by simp)).trans ?_
        simp [dK, hq, zF]
      · first | exact (Go.Joins.below_alloc3 _ _ _ _).alloc (by simp; omega) _ | exact ((Go.Joins.below_alloc3 _ _ _ _).alloc (by simp; omega) _).drew
    case round =>
      obtain ⟨k, hk, rfl, h0, h1, h2, h3, hb⟩ := hrel
      have l3 := at_lt h3
      obtain ⟨D, hD⟩ : ∃ D, dK a b k = D := ⟨_, rfl⟩
      rw [hD] at h3
      have HD : Hid (dK a b k = D) := hD
      have hm := dK_m8 hD hk
      clear hD
      have c0 := cells_at h0
      have c1 := cells_at h1
      have c2 := cells_at h2
      have c3 := cells_at h3
      have l0 : w.heap.size < wr.heap.size := by omega
      have H0 : Hid (wr.heap[w.heap.size]? = some a.o) := h0
      have H1 : Hid (wr.heap[w.heap.size + 1]? = some b.o) := h1
      have H2 : Hid (wr.heap[w.heap.size + 1 + 1]? = some zD.o) := h2
      have H3 : Hid (wr.heap[w.heap.size + 1 + 1 + 1]? = some D.o) := h3
      clear h0 h1 h2 h3
      obtain rfl | rfl | rfl | rfl | rfl : k = 0 ∨ k = 1 ∨ k = 2 ∨ k = 3 ∨ k = 4 := by omega
      · have hI := index_f0
        obtain ⟨r, hr⟩ : ∃ r, eqF a.f0 b.f0 = r := ⟨_, rfl⟩
        have hR := equal_fl_at hr
        have HR : Hid (eqF a.f0 b.f0 = r) := hr
        clear hr
        cases r
        · go_wp2_with fail
          go_region
          go_wp2_with fail
          go_region
          go_wp2_with fail
          first | go_roundw | refine ⟨?rel, ?measure⟩
          case rel =>
            refine ⟨1, by omega, rfl, old_at (set_off (set_off (set_off H0.out (by omega) _) (by omega) _) (by omega) _) _, old_at (set_off (set_off (set_off H1.out (by omega) _) (by omega) _) (by omega) _) _, old_at (set_off (set_off (set_off H2.out (by omega) _) (by omega) _) (by omega) _) _, ?_, ?_⟩
            · refine (old_at (set_at (set_at (set_at H3.out _ rfl) _ rfl) _ rfl) _).trans ?_
              have e : bits .or .u8 (D.m : Int) 2 = ((D.m ||| 2 : Nat) : Int) := u8_or_nat D.m 2 hm (by omega)
              rw [e, dK_next HD.out HR.out]
              rfl
            · exact (((((hb.setCell (by simp; omega) _).setCell (by simp; omega) _).setCell (by simp; omega) _).alloc (by simp [World.setCell]; omega) _).drew).drew
          case measure => simp [intOf]
        · go_wp2_with fail
          go_region
          go_wp2_with fail
          first | go_roundw | refine ⟨?rel, ?measure⟩
          case rel =>
            refine ⟨1, by omega, rfl, old_at H0.out _, old_at H1.out _, old_at H2.out _, ?_, ?_⟩
            · rw [dK_same HD.out HR.out]; exact old_at H3.out _
            · exact (hb.alloc (by omega) _).drew
          case measure => simp [intOf]
      · have hI := index_f1
        obtain ⟨r, hr⟩ : ∃ r, eqF a.f1 b.f1 = r := ⟨_, rfl⟩
        have hR := equal_fl_at hr
        have HR : Hid (eqF a.f1 b.f1 = r) := hr
        clear hr
        cases r
        · go_wp2_with fail
          go_region
          go_wp2_with fail
          go_region
          go_wp2_with fail
          first | go_roundw | refine ⟨?rel, ?measure⟩
          case rel =>
            refine ⟨2, by omega, rfl, old_at (set_off (set_off (set_off H0.out (by omega) _) (by omega) _) (by omega) _) _, old_at (set_off (set_off (set_off H1.out (by omega) _) (by omega) _) (by omega) _) _, old_at (set_off (set_off (set_off H2.out (by omega) _) (by omega) _) (by omega) _) _, ?_, ?_⟩
            · refine (old_at (set_at (set_at (set_at H3.out _ rfl) _ rfl) _ rfl) _).trans ?_
              have e : bits .or .u8 (D.m : Int) 4 = ((D.m ||| 4 : Nat) : Int) := u8_or_nat D.m 4 hm (by omega)
              rw [e, dK_next HD.out HR.out]
              rfl
            · exact (((((hb.setCell (by simp; omega) _).setCell (by simp; omega) _).setCell (by simp; omega) _).alloc (by simp [World.setCell]; omega) _).drew).drew
          case measure => simp [intOf]
        · go_wp2_with fail
          go_region
          go_wp2_with fail
          first | go_roundw | refine ⟨?rel, ?measure⟩
          case rel =>
            refine ⟨2, by omega, rfl, old_at H0.out _, old_at H1.out _, old_at H2.out _, ?_, ?_⟩
            · rw [dK_same HD.out HR.out]; exact old_at H3.out _
            · exact (hb.alloc (by omega) _).drew
          case measure => simp [intOf]
      · have hI := index_f2
        obtain ⟨r, hr⟩ : ∃ r, eqF a.f2 b.f2 = r := ⟨_, rfl⟩
        have hR := equal_fl_at hr
        have HR : Hid (eqF a.f2 b.f2 = r) := hr
        clear hr
        cases r
        · go_wp2_with fail
          go_region
          go_wp2_with fail
          go_region
          go_wp2_with fail
          first | go_roundw | refine ⟨?rel, ?measure⟩
          case rel =>
            refine ⟨3, by omega, rfl, old_at (set_off (set_off (set_off H0.out (by omega) _) (by omega) _) (by omega) _) _, old_at (set_off (set_off (set_off H1.out (by omega) _) (by omega) _) (by omega) _) _, old_at (set_off (set_off (set_off H2.out (by omega) _) (by omega) _) (by omega) _) _, ?_, ?_⟩
            · refine (old_at (set_at (set_at (set_at H3.out _ rfl) _ rfl) _ rfl) _).trans ?_
              have e : bits .or .u8 (D.m : Int) 8 = ((D.m ||| 8 : Nat) : Int) := u8_or_nat D.m 8 hm (by omega)
              rw [e, dK_next HD.out HR.out]
              rfl
            · exact (((((hb.setCell (by simp; omega) _).setCell (by simp; omega) _).setCell (by simp; omega) _).alloc (by simp [World.setCell]; omega) _).drew).drew
          case measure => simp [intOf]
        · go_wp2_with fail
          go_region
          go_wp2_with fail
          first | go_roundw | refine ⟨?rel, ?measure⟩
          case rel =>
            refine ⟨3, by omega, rfl, old_at H0.out _, old_at H1.out _, old_at H2.out _, ?_, ?_⟩
            · rw [dK_same HD.out HR.out]; exact old_at H3.out _
            · exact (hb.alloc (by omega) _).drew
          case measure => simp [intOf]
      · have hI := index_f3
        obtain ⟨r, hr⟩ : ∃ r, eqF a.f3 b.f3 = r := ⟨_, rfl⟩
        have hR := equal_fl_at hr
        have HR : Hid (eqF a.f3 b.f3 = r) := hr
        clear hr
        cases r
        · go_wp2_with fail
          go_region
          go_wp2_with fail
          go_region
          go_wp2_with fail
          first | go_roundw | refine ⟨?rel, ?measure⟩
          case rel =>
            refine ⟨4, by omega, rfl, old_at (set_off (set_off (set_off H0.out (by omega) _) (by omega) _) (by omega) _) _, old_at (set_off (set_off (set_off H1.out (by omega) _) (by omega) _) (by omega) _) _, old_at (set_off (set_off (set_off H2.out (by omega) _) (by omega) _) (by omega) _) _, ?_, ?_⟩
            · refine (old_at (set_at (set_at (set_at H3.out _ rfl) _ rfl) _ rfl) _).trans ?_
              have e : bits .or .u8 (D.m : Int) 16 = ((D.m ||| 16 : Nat) : Int) := u8_or_nat D.m 16 hm (by omega)
              rw [e, dK_next HD.out HR.out]
              rfl
            · exact (((((hb.setCell (by simp; omega) _).setCell (by simp; omega) _).setCell (by simp; omega) _).alloc (by simp [World.setCell]; omega) _).drew).drew
          case measure => simp [intOf]
        · go_wp2_with fail
          go_region
          go_wp2_with fail
          first | go_roundw | refine ⟨?rel, ?measure⟩
          case rel =>
            refine ⟨4, by omega, rfl, old_at H0.out _, old_at H1.out _, old_at H2.out _, ?_, ?_⟩
            · rw [dK_same HD.out HR.out]; exact old_at H3.out _
            · exact (hb.alloc (by omega) _).drew
          case measure => simp [intOf]
      · by_cases hz : D.m = 0
        · have HZ : Hid (D.m = 0) := hz
          go_wp2_with fail
          exact bodyPost_ret (v := .tuple #[zD.v, .bool false]) (by simp [results, Try.results23, go_sem, c2, zD, zF]) rfl ⟨by unfold diff; rw [HD.out, if_pos HZ.out], below_set12 hb (by omega) _ _ _ _ _ _ _ _ _ _ _ _⟩
        · have hz' : ((D.m : Int) == 0) = false := by simpa using hz
          have HZ : Hid (¬ D.m = 0) := hz
          clear hz
          go_wp2_with fail
          exact bodyPost_ret (v := .tuple #[D.v, .bool true]) (by simp [results, Try.results23, go_sem, c2]) rfl ⟨by unfold diff; rw [HD.out, if_neg HZ.out], below_set12 hb (by omega) _ _ _ _ _ _ _ _ _ _ _ _⟩
  · go_wp2_with fail
    go_loopw [26] (fun i wr => ∃ k : Nat, k ≤ 4 ∧ i = .int .i64 k ∧ wr.heap[w.heap.size]? = some a.o ∧ wr.heap[w.heap.size + 1]? = some b.o ∧ wr.heap[w.heap.size + 1 + 1]? = some zD.o ∧ wr.heap[w.heap.size + 1 + 1 + 1]? = some (dK a b k).o ∧ Below w.heap.size w wr) (fun i _ => 4 - (intOf i).toNat)
    case atStart =>
      refine ⟨0, by omega, rfl, ?_, ?_, ?_, ?_, ?_⟩
      · exact old_at (old_at (old_at (new_at _ _ _ rfl) _) _) _
      · exact old_at (old_at (new_at _ _ _ (by simp)) _) _
      · exact old_at (new_at _ _ _ (by simp)) _
      · refine (new_at _ _ _ (by simp)).trans ?_
        simp [dK, hq, zF]
      · first | exact (Go.Joins.below_alloc3 _ _ _ _).alloc (by simp; omega) _ | exact ((Go.Joins.below_alloc3 _ _ _ _).alloc (by simp; omega) _).drew
    case round =>
      obtain ⟨k, hk, rfl, h0, h1, h2, h3, hb⟩ := hrel
      have l3 := at_lt h3
      obtain ⟨D, hD⟩ : ∃ D, dK a b k = D := ⟨_, rfl⟩
      rw [hD] at h3
      have HD : Hid (dK a b k = D) := hD
      have hm := dK_m8 hD hk
      clear hD
      have c0 := cells_at h0
      have c1 := cells_at h1
      have c2 := cells_at h2
      have c3 := cells_at h3
      have l0 : w.heap.size < wr.heap.size := by omega
      have H0 : Hid (wr.heap[w.heap.size]? = some a.o) := h0
      have H1 : Hid (wr.heap[w.heap.size + 1]? = some b.o) := h1
      have H2 : Hid (wr.heap[w.heap.size + 1 + 1]? = some zD.o) := h2
      have H3 : Hid (wr.heap[w.heap.size + 1 + 1 + 1]? = some D.o) := h3
      clear h0 h1 h2 h3
      obtain rfl | rfl | rfl | rfl | rfl : k = 0 ∨ k = 1 ∨ k = 2 ∨ k = 3 ∨ k = 4 := by omega
      · have hI := index_f0
        obtain ⟨r, hr⟩ : ∃ r, eqF a.f0 b.f0 = r := ⟨_, rfl⟩
        have hR := equal_fl_at hr
        have HR : Hid (eqF a.f0 b.f0 = r) := hr
        clear hr
        cases r
        · go_wp2_with fail
          go_region
          go_wp2_with fail
          go_region
          go_wp2_with fail
          first | go_roundw | refine ⟨?rel, ?measure⟩
          case rel =>
            refine ⟨1, by omega, rfl, old_at (set_off (set_off (set_off H0.out (by omega) _) (by omega) _) (by omega) _) _, old_at (set_off (set_off (set_off H1.out (by omega) _) (by omega) _) (by omega) _) _, old_at (set_off (set_off (set_off H2.out (by omega) _) (by omega) _) (by omega) _) _, ?_, ?_⟩
            · refine (old_at (set_at (set_at (set_at H3.out _ rfl) _ rfl) _ rfl) _).trans ?_
              have e : bits .or .u8 (D.m : Int) 2 = ((D.m ||| 2 : Nat) : Int) := u8_or_nat D.m 2 hm (by omega)
              rw [e, dK_next HD.out HR.out]
              rfl
            · exact (((((hb.setCell (by simp; omega) _).setCell (by simp; omega) _).setCell (by simp; omega) _).alloc (by simp [World.setCell]; omega) _).drew).drew
          case measure => simp [intOf]
        · go_wp2_with fail
          go_region
          go_wp2_with fail
          first | go_roundw | refine ⟨?rel, ?measure⟩
          case rel =>
            refine ⟨1, by omega, rfl, old_at H0.out _, old_at H1.out _, old_at H2.out _, ?_, ?_⟩
            · rw [dK_same HD.out HR.out]; exact old_at H3.out _
            · exact (hb.alloc (by omega) _).drew
          case measure => simp [intOf]
      · have hI := index_f1
        obtain ⟨r, hr⟩ : ∃ r, eqF a.f1 b.f1 = r := ⟨_, rfl⟩
        have hR := equal_fl_at hr
        have HR : Hid (eqF a.f1 b.f1 = r) := hr
        clear hr
        cases r
        · go_wp2_with fail
          go_region
          go_wp2_with fail
          go_region
          go_wp2_with fail
          first | go_roundw | refine ⟨?rel, ?measure⟩
          case rel =>
            refine ⟨2, by omega, rfl, old_at (set_off (set_off (set_off H0.out (by omega) _) (by omega) _) (by omega) _) _, old_at (set_off (set_off (set_off H1.out (by omega) _) (by omega) _) (by omega) _) _, old_at (set_off (set_off (set_off H2.out (by omega) _) (by omega) _) (by omega) _) _, ?_, ?_⟩
            · refine (old_at (set_at (set_at (set_at H3.out _ rfl) _ rfl) _ rfl) _).trans ?_
              have e : bits .or .u8 (D.m : Int) 4 = ((D.m ||| 4 : Nat) : Int) := u8_or_nat D.m 4 hm (by omega)
              rw [e, dK_next HD.out HR.out]
              rfl
            · exact (((((hb.setCell (by simp; omega) _).setCell (by simp; omega) _).setCell (by simp; omega) _).alloc (by simp [World.setCell]; omega) _).drew).drew
          case measure => simp [intOf]
        · go_wp2_with fail
          go_region
          go_wp2_with fail
          first | go_roundw | refine ⟨?rel, ?measure⟩
          case rel =>
            refine ⟨2, by omega, rfl, old_at H0.out _, old_at H1.out _, old_at H2.out _, ?_, ?_⟩
            · rw [dK_same HD.out HR.out]; exact old_at H3.out _
            · exact (hb.alloc (by omega) _).drew
          case measure => simp [intOf]
      · have hI := index_f2
        obtain ⟨r, hr⟩ : ∃ r, eqF a.f2 b.f2 = r := ⟨_, rfl⟩
        have hR := equal_fl_at hr
        have HR : Hid (eqF a.f2 b.f2 = r) := hr
        clear hr
        cases r
        · go_wp2_with fail
          go_region
          go_wp2_with fail
          go_region
          go_wp2_with fail
          first | go_roundw | refine ⟨?rel, ?measure⟩
          case rel =>
            refine ⟨3, by omega, rfl, old_at (set_off (set_off (set_off H0.out (by omega) _) (by omega) _) (by omega) _) _, old_at (set_off (set_off (set_off H1.out (by omega) _) (by omega) _) (by omega) _) _, old_at (set_off (set_off (set_off H2.out (by omega) _) (by omega) _) (by omega) _) _, ?_, ?_⟩
            · refine (old_at (set_at (set_at (set_at H3.out _ rfl) _ rfl) _ rfl) _).trans ?_
              have e : bits .or .u8 (D.m : Int) 8 = ((D.m ||| 8 : Nat) : Int) := u8_or_nat D.m 8 hm (by omega)
              rw [e, dK_next HD.out HR.out]
              rfl
            · exact (((((hb.setCell (by simp; omega) _).setCell (by simp; omega) _).setCell (by simp; omega) _).alloc (by simp [World.setCell]; omega) _).drew).drew
          case measure => simp [intOf]
        · go_wp2_with fail
          go_region
          go_wp2_with fail
          first | go_roundw | refine ⟨?rel, ?measure⟩
          case rel =>
            refine ⟨3, by omega, rfl, old_at H0.out _, old_at H1.out _, old_at H2.out _, ?_, ?_⟩
            · rw [dK_same HD.out HR.out]; exact old_at H3.out _
            · exact (hb.alloc (by omega) _).drew
          case measure => simp [intOf]
      · have hI := index_f3
        obtain ⟨r, hr⟩ : ∃ r, eqF a.f3 b.f3 = r := ⟨_, rfl⟩
        have hR := equal_fl_at hr
        have HR : Hid (eqF a.f3 b.f3 = r) := hr
        clear hr
        cases r
        · go_wp2_with fail
          go_region
          go_wp2_with fail
          go_region
          go_wp2_with fail
          first | go_roundw | refine ⟨?rel, ?measure⟩
          case rel =>
            refine ⟨4, by omega, rfl, old_at (set_off (set_off (set_off H0.out (by omega) _) (by omega) _) (by omega) _) _, old_at (set_off (set_off (set_off H1.out (by omega) _) (by omega) _) (by omega) _) _, old_at (set_off (set_off (set_off H2.out (by omega) _) (by omega) _) (by omega) _) _, ?_, ?_⟩
            · refine (old_at (set_at (set_at (set_at H3.out _ rfl) _ rfl) _ rfl) _).trans ?_
              have e : bits .or .u8 (D.m : Int) 16 = ((D.m ||| 16 : Nat) : Int) := u8_or_nat D.m 16 hm (by omega)
              rw [e, dK_next HD.out HR.out]
              rfl
            · exact (((((hb.setCell (by simp; omega) _).setCell (by simp; omega) _).setCell (by simp; omega) _).alloc (by simp [World.setCell]; omega) _).drew).drew
          case measure => simp [intOf]
        · go_wp2_with fail
          go_region
          go_wp2_with fail
          first | go_roundw | refine ⟨?rel, ?measure⟩
          case rel =>
            refine ⟨4, by omega, rfl, old_at H0.out _, old_at H1.out _, old_at H2.out _, ?_, ?_⟩
            · rw [dK_same HD.out HR.out]; exact old_at H3.out _
            · exact (hb.alloc (by omega) _).drew
          case measure => simp [intOf]
      · by_cases hz : D.m = 0
        · have HZ : Hid (D.m = 0) := hz
          go_wp2_with fail
          exact bodyPost_ret (v := .tuple #[zD.v, .bool false]) (by simp [results, Try.results23, go_sem, c2, zD, zF]) rfl ⟨by unfold diff; rw [HD.out, if_pos HZ.out], below_set12 hb (by omega) _ _ _ _ _ _ _ _ _ _ _ _⟩
        · have hz' : ((D.m : Int) == 0) = false := by simpa using hz
          have HZ : Hid (¬ D.m = 0) := hz
          clear hz
          go_wp2_with fail
          exact bodyPost_ret (v := .tuple #[D.v, .bool true]) (by simp [results, Try.results23, go_sem, c2]) rfl ⟨by unfold diff; rw [HD.out, if_neg HZ.out], below_set12 hb (by omega) _ _ _ _ _ _ _ _ _ _ _ _⟩
set_option maxHeartbeats 2000000 in
theorem ref_diff (w : World) (a b : Th) : Calls Try.prog 24 #[a.v, b.v] w fun e w' => e = .returned (.tuple #[(dK a b 4).v, .bool (decide (¬ (dK a b 4).m = 0))]) ∧ Below w.heap.size w w' := by
  obtain ⟨q, hq⟩ : ∃ q, pEq a.x a.y b.x b.y = q := ⟨_, rfl⟩
  have hQ : ∀ W : World, (Op.equalIn 10000 35 (pt a.x a.y) (pt b.x b.y)).run Try.prog W = .ok q W := fun W => by rw [← hq]; exact equal_pt W _ _ _ _
  unfold pt at hQ
  go_enter Try.func24, Try.ntmps24
  cases q
  · go_wp2_with fail
    go_region
    go_wp2_with fail
    go_loopw [7] (fun i wr => ∃ k : Nat, k ≤ 4 ∧ i = .int .i64 k ∧ wr.heap[w.heap.size]? = some a.o ∧ wr.heap[w.heap.size + 1]? = some b.o ∧ wr.heap[w.heap.size + 1 + 1]? = some zD.o ∧ wr.heap[w.heap.size + 1 + 1 + 1]? = some (dK a b k).o ∧ Below w.heap.size w wr) (fun i _ => 4 - (intOf i).toNat)
    case atStart =>
      refine ⟨0, by omega, rfl, ?_, ?_, ?_, ?_, ?_⟩
      · exact old_at (old_at (old_at (new_at _ _ _ rfl) _) _) _
      · exact old_at (old_at (new_at _ _ _ (by simp)) _) _
      · exact old_at (new_at _ _ _ (by simp)) _
      · refine (new_at _ _ _ (by simp)).trans ?_
        simp [dK, hq, zF]
      · first | exact (Go.Joins.below_alloc3 _ _ _ _).alloc (by simp; omega) _ | exact ((Go.Joins.below_alloc3 _ _ _ _).alloc (by simp; omega) _).drew
    case round =>
      obtain ⟨k, hk, rfl, h0, h1, h2, h3, hb⟩ := hrel
      have l3 := at_lt h3
      obtain ⟨D, hD⟩ : ∃ D, dK a b k = D := ⟨_, rfl⟩
      rw [hD] at h3
      have HD : Hid (dK a b k = D) := hD
      have hm := dK_m8 hD hk
      clear hD
      have c0 := cells_at h0
      have c1 := cells_at h1
      have c2 := cells_at h2
      have c3 := cells_at h3
      have l0 : w.heap.size < wr.heap.size := by omega
      have H0 : Hid (wr.heap[w.heap.size]? = some a.o) := h0
      have H1 : Hid (wr.heap[w.heap.size + 1]? = some b.o) := h1
      have H2 : Hid (wr.heap[w.heap.size + 1 + 1]? = some zD.o) := h2
      have H3 : Hid (wr.heap[w.heap.size + 1 + 1 + 1]? = some D.o) := h3
      clear h0 h1 h2 h3
      obtain rfl | rfl | rfl | rfl | rfl : k = 0 ∨ k = 1 ∨ k = 2 ∨ k = 3 ∨ k = 4 := by omega
      · have hI := index_f0
        obtain ⟨r, hr⟩ : ∃ r, eqF a.f0 b.f0 = r := ⟨_, rfl⟩
        have hR := equal_fl_at hr
        have HR : Hid (eqF a.f0 b.f0 = r) := hr
        clear hr
        cases r
        · go_wp2_with fail
          go_region
          go_wp2_with fail
          first | go_roundw | refine ⟨?rel, ?measure⟩
          case rel =>
            refine ⟨1, by omega, rfl, set_off (set_off (set_off H0.out (by omega) _) (by omega) _) (by omega) _, set_off (set_off (set_off H1.out (by omega) _) (by omega) _) (by omega) _, set_off (set_off (set_off H2.out (by omega) _) (by omega) _) (by omega) _, ?_, ?_⟩
            · refine (set_at (set_at (set_at H3.out _ rfl) _ rfl) _ rfl).trans ?_
              have e : bits .or .u8 (D.m : Int) 2 = ((D.m ||| 2 : Nat) : Int) := u8_or_nat D.m 2 hm (by omega)
              rw [e, dK_next HD.out HR.out]
              rfl
            · exact (((hb.setCell (by simp; omega) _).setCell (by simp; omega) _).setCell (by simp; omega) _).drew
          case measure => simp [intOf]
        · go_wp2_with fail
          go_region
          go_wp2_with fail
          first | go_roundw | refine ⟨?rel, ?measure⟩
          case rel =>
            refine ⟨1, by omega, rfl, H0.out, H1.out, H2.out, ?_, ?_⟩
            · rw [dK_same HD.out HR.out]; exact H3.out
            · exact hb.drew
          case measure => simp [intOf]
      · have hI := index_f1
        obtain ⟨r, hr⟩ : ∃ r, eqF a.f1 b.f1 = r := ⟨_, rfl⟩
        have hR := equal_fl_at hr
        have HR : Hid (eqF a.f1 b.f1 = r) := hr
        clear hr
        cases r
        · go_wp2_with fail
          go_region
          go_wp2_with fail
          first | go_roundw | refine ⟨?rel, ?measure⟩
          case rel =>
            refine ⟨2, by omega, rfl, set_off (set_off (set_off H0.out (by omega) _) (by omega) _) (by omega) _, set_off (set_off (set_off H1.out (by omega) _) (by omega) _) (by omega) _, set_off (set_off (set_off H2.out (by omega) _) (by omega) _) (by omega) _, ?_, ?_⟩
            · refine (set_at (set_at (set_at H3.out _ rfl) _ rfl) _ rfl).trans ?_
              have e : bits .or .u8 (D.m : Int) 4 = ((D.m ||| 4 : Nat) : Int) := u8_or_nat D.m 4 hm (by omega)
              rw [e, dK_next HD.out HR.out]
              rfl
            · exact (((hb.setCell (by simp; omega) _).setCell (by simp; omega) _).setCell (by simp; omega) _).drew
          case measure => simp [intOf]
        · go_wp2_with fail
          go_region
          go_wp2_with fail
          first | go_roundw | refine ⟨?rel, ?measure⟩
          case rel =>
            refine ⟨2, by omega, rfl, H0.out, H1.out, H2.out, ?_, ?_⟩
            · rw [dK_same HD.out HR.out]; exact H3.out
            · exact hb.drew
          case measure => simp [intOf]
      · have hI := index_f2
        obtain ⟨r, hr⟩ : ∃ r, eqF a.f2 b.f2 = r := ⟨_, rfl⟩
        have hR := equal_fl_at hr
        have HR : Hid (eqF a.f2 b.f2 = r) := hr
        clear hr
        cases r
        · go_wp2_with fail
          go_region
          go_wp2_with fail
          first | go_roundw | refine ⟨?rel, ?measure⟩
          case rel =>
            refine ⟨3, by omega, rfl, set_off (set_off (set_off H0.out (by omega) _) (by omega) _) (by omega) _, set_off (set_off (set_off H1.out (by omega) _) (by omega) _) (by omega) _, set_off (set_off (set_off H2.out (by omega) _) (by omega) _) (by omega) _, ?_, ?_⟩
            · refine (set_at (set_at (set_at H3.out _ rfl) _ rfl) _ rfl).trans ?_
              have e : bits .or .u8 (D.m : Int) 8 = ((D.m ||| 8 : Nat) : Int) := u8_or_nat D.m 8 hm (by omega)
              rw [e, dK_next HD.out HR.out]
              rfl
            · exact (((hb.setCell (by simp; omega) _).setCell (by simp; omega) _).setCell (by simp; omega) _).drew
          case measure => simp [intOf]
        · go_wp2_with fail
          go_region
          go_wp2_with fail
          first | go_roundw | refine ⟨?rel, ?measure⟩
          case rel =>
            refine ⟨3, by omega, rfl, H0.out, H1.out, H2.out, ?_, ?_⟩
            · rw [dK_same HD.out HR.out]; exact H3.out
            · exact hb.drew
          case measure => simp [intOf]
      · have hI := index_f3
        obtain ⟨r, hr⟩ : ∃ r, eqF a.f3 b.f3 = r := ⟨_, rfl⟩
        have hR := equal_fl_at hr
        have HR : Hid (eqF a.f3 b.f3 = r) := hr
        clear hr
        cases r
        · go_wp2_with fail
          go_region
          go_wp2_with fail
          first | go_roundw | refine ⟨?rel, ?measure⟩
          case rel =>
            refine ⟨4, by omega, rfl, set_off (set_off (set_off H0.out (by omega) _) (by omega) _) (by omega) _, set_off (set_off (set_off H1.out (by omega) _) (by omega) _) (by omega) _, set_off (set_off (set_off H2.out (by omega) _) (by omega) _) (by omega) _, ?_, ?_⟩
            · refine (set_at (set_at (set_at H3.out _ rfl) _ rfl) _ rfl).trans ?_
              have e : bits .or .u8 (D.m : Int) 16 = ((D.m ||| 16 : Nat) : Int) := u8_or_nat D.m 16 hm (by omega)
              rw [e, dK_next HD.out HR.out]
              rfl
            · exact (((hb.setCell (by simp; omega) _).setCell (by simp; omega) _).setCell (by simp; omega) _).drew
          case measure => simp [intOf]
        · go_wp2_with fail
          go_region
          go_wp2_with fail
          first | go_roundw | refine ⟨?rel, ?measure⟩
          case rel =>
            refine ⟨4, by omega, rfl, H0.out, H1.out, H2.out, ?_, ?_⟩
            · rw [dK_same HD.out HR.out]; exact H3.out
            · exact hb.drew
          case measure => simp [intOf]
      · go_wp2_with fail
        go_region
        go_wp2_with fail
        have e : ((D.m : Int) != 0) = decide (¬ D.m = 0) := by rw [Bool.eq_iff_iff]; simp
        exact bodyPost_ret (v := .tuple #[D.v, .bool (decide (¬ D.m = 0))]) (by simp [results, Try.results24, go_sem, c2, e]) rfl ⟨by rw [HD.out], (below_set12 hb (by omega) _ _ _ _ _ _ _ _ _ _ _ _).drew⟩
  · go_wp2_with fail
    go_loopw [7] (fun i wr => ∃ k : Nat, k ≤ 4 ∧ i = .int .i64 k ∧ wr.heap[w.heap.size]? = some a.o ∧ wr.heap[w.heap.size + 1]? = some b.o ∧ wr.heap[w.heap.size + 1 + 1]? = some zD.o ∧ wr.heap[w.heap.size + 1 + 1 + 1]? = some (dK a b k).o ∧ Below w.heap.size w wr) (fun i _ => 4 - (intOf i).toNat)
    case atStart =>
      refine ⟨0, by omega, rfl, ?_, ?_, ?_, ?_, ?_⟩
      · exact old_at (old_at (old_at (new_at _ _ _ rfl) _) _) _
      · exact old_at (old_at (new_at _ _ _ (by simp)) _) _
      · exact old_at (new_at _ _ _ (by simp)) _
      · refine (new_at _ _ _ (by simp)).trans ?_
        simp [dK, hq, zF]
      · first | exact (Go.Joins.below_alloc3 _ _ _ _).alloc (by simp; omega) _ | exact ((Go.Joins.below_alloc3 _ _ _ _).alloc (by simp; omega) _).drew
    case round =>
      obtain ⟨k, hk, rfl, h0, h1, h2, h3, hb⟩ := hrel
      have l3 := at_lt h3
      obtain ⟨D, hD⟩ : ∃ D, dK a b k = D := ⟨_, rfl⟩
      rw [hD] at h3
      have HD : Hid (dK a b k = D) := hD
      have hm := dK_m8 hD hk
      clear hD
      have c0 := cells_at h0
      have c1 := cells_at h1
      have c2 := cells_at h2
      have c3 := cells_at h3
      have l0 : w.heap.size < wr.heap.size := by omega
      have H0 : Hid (wr.heap[w.heap.size]? = some a.o) := h0
      have H1 : Hid (wr.heap[w.heap.size + 1]? = some b.o) := h1
      have H2 : Hid (wr.heap[w.heap.size + 1 + 1]? = some zD.o) := h2
      have H3 : Hid (wr.heap[w.heap.size + 1 + 1 + 1]? = some D.o) := h3
      clear h0 h1 h2 h3
      obtain rfl | rfl | rfl | rfl | rfl : k = 0 ∨ k = 1 ∨ k = 2 ∨ k = 3 ∨ k = 4 := by omega
      · have hI := index_f0
        obtain ⟨r, hr⟩ : ∃ r, eqF a.f0 b.f0 = r := ⟨_, rfl⟩
        have hR := equal_fl_at hr
        have HR : Hid (eqF a.f0 b.f0 = r) := hr
        clear hr
        cases r
        · go_wp2_with fail
          go_region
          go_wp2_with fail
          first | go_roundw | refine ⟨?rel, ?measure⟩
          case rel =>
            refine ⟨1, by omega, rfl, set_off (set_off (set_off H0.out (by omega) _) (by omega) _) (by omega) _, set_off (set_off (set_off H1.out (by omega) _) (by omega) _) (by omega) _, set_off (set_off (set_off H2.out (by omega) _) (by omega) _) (by omega) _, ?_, ?_⟩
            · refine (set_at (set_at (set_at H3.out _ rfl) _ rfl) _ rfl).trans ?_
              have e : bits .or .u8 (D.m : Int) 2 = ((D.m ||| 2 : Nat) : Int) := u8_or_nat D.m 2 hm (by omega)
              rw [e, dK_next HD.out HR.out]
              rfl
            · exact (((hb.setCell (by simp; omega) _).setCell (by simp; omega) _).setCell (by simp; omega) _).drew
          case measure => simp [intOf]
        · go_wp2_with fail
          go_region
          go_wp2_with fail
          first | go_roundw | refine ⟨?rel, ?measure⟩
          case rel =>
            refine ⟨1, by omega, rfl, H0.out, H1.out, H2.out, ?_, ?_⟩
            · rw [dK_same HD.out HR.out]; exact H3.out
            · exact hb.drew
          case measure => simp [intOf]
      · have hI := index_f1
        obtain ⟨r, hr⟩ : ∃ r, eqF a.f1 b.f1 = r := ⟨_, rfl⟩
        have hR := equal_fl_at hr
        have HR : Hid (eqF a.f1 b.f1 = r) := hr
        clear hr
        cases r
        · go_wp2_with fail
          go_region
          go_wp2_with fail
          first | go_roundw | refine ⟨?rel, ?measure⟩
          case rel =>
            refine ⟨2, by omega, rfl, set_off (set_off (set_off H0.out (by omega) _) (by omega) _) (by omega) _, set_off (set_off (set_off H1.out (by omega) _) (by omega) _) (by omega) _, set_off (set_off (set_off H2.out (by omega) _) (by omega) _) (by omega) _, ?_, ?_⟩
            · refine (set_at (set_at (set_at H3.out _ rfl) _ rfl) _ rfl).trans ?_
              have e : bits .or .u8 (D.m : Int) 4 = ((D.m ||| 4 : Nat) : Int) := u8_or_nat D.m 4 hm (by omega)
              rw [e, dK_next HD.out HR.out]
              rfl
            · exact (((hb.setCell (by simp; omega) _).setCell (by simp; omega) _).setCell (by simp; omega) _).drew
          case measure => simp [intOf]
        · go_wp2_with fail
          go_region
          go_wp2_with fail
          first | go_roundw | refine ⟨?rel, ?measure⟩
          case rel =>
            refine ⟨2, by omega, rfl, H0.out, H1.out, H2.out, ?_, ?_⟩
            · rw [dK_same HD.out HR.out]; exact H3.out
            · exact hb.drew
          case measure => simp [intOf]
      · have hI := index_f2
        obtain ⟨r, hr⟩ : ∃ r, eqF a.f2 b.f2 = r := ⟨_, rfl⟩
        have hR := equal_fl_at hr
        have HR : Hid (eqF a.f2 b.f2 = r) := hr
        clear hr
        cases r
        · go_wp2_with fail
          go_region
          go_wp2_with fail
          first | go_roundw | refine ⟨?rel, ?measure⟩
          case rel =>
            refine ⟨3, by omega, rfl, set_off (set_off (set_off H0.out (by omega) _) (by omega) _) (by omega) _, set_off (set_off (set_off H1.out (by omega) _) (by omega) _) (by omega) _, set_off (set_off (set_off H2.out (by omega) _) (by omega) _) (by omega) _, ?_, ?_⟩
            · refine (set_at (set_at (set_at H3.out _ rfl) _ rfl) _ rfl).trans ?_
              have e : bits .or .u8 (D.m : Int) 8 = ((D.m ||| 8 : Nat) : Int) := u8_or_nat D.m 8 hm (by omega)
              rw [e, dK_next HD.out HR.out]
              rfl
            · exact (((hb.setCell (by simp; omega) _).setCell (by simp; omega) _).setCell (by simp; omega) _).drew
          case measure => simp [intOf]
        · go_wp2_with fail
          go_region
          go_wp2_with fail
          first | go_roundw | refine ⟨?rel, ?measure⟩
          case rel =>
            refine ⟨3, by omega, rfl, H0.out, H1.out, H2.out, ?_, ?_⟩
            · rw [dK_same HD.out HR.out]; exact H3.out
            · exact hb.drew
          case measure => simp [intOf]
      · have hI := index_f3
        obtain ⟨r, hr⟩ : ∃ r, eqF a.f3 b.f3 = r := ⟨_, rfl⟩
        have hR := equal_fl_at hr
        have HR : Hid (eqF a.f3 b.f3 = r) := hr
        clear hr
        cases r
        · go_wp2_with fail
          go_region
          go_wp2_with fail
          first | go_roundw | refine ⟨?rel, ?measure⟩
          case rel =>
            refine ⟨4, by omega, rfl, set_off (set_off (set_off H0.out (by omega) _) (by omega) _) (by omega) _, set_off (set_off (set_off H1.out (by omega) _) (by omega) _) (by omega) _, set_off (set_off (set_off H2.out (by omega) _) (by omega) _) (by omega) _, ?_, ?_⟩
            · refine (set_at (set_at (set_at H3.out _ rfl) _ rfl) _ rfl).trans ?_
              have e : bits .or .u8 (D.m : Int) 16 = ((D.m ||| 16 : Nat) : Int) := u8_or_nat D.m 16 hm (by omega)
              rw [e, dK_next HD.out HR.out]
              rfl
            · exact (((hb.setCell (by simp; omega) _).setCell (by simp; omega) _).setCell (by simp; omega) _).drew
          case measure => simp [intOf]
        · go_wp2_with fail
          go_region
          go_wp2_with fail
          first | go_roundw | refine ⟨?rel, ?measure⟩
          case rel =>
            refine ⟨4, by omega, rfl, H0.out, H1.out, H2.out, ?_, ?_⟩
            · rw [dK_same HD.out HR.out]; exact H3.out
            · exact hb.drew
          case measure => simp [intOf]
      · go_wp2_with fail
        go_region
        go_wp2_with fail
        have e : ((D.m : Int) != 0) = decide (¬ D.m = 0) := by rw [Bool.eq_iff_iff]; simp
        exact bodyPost_ret (v := .tuple #[D.v, .bool (decide (¬ D.m = 0))]) (by simp [results, Try.results24, go_sem, c2, e]) rfl ⟨by rw [HD.out], (below_set12 hb (by omega) _ _ _ _ _ _ _ _ _ _ _ _).drew⟩
end Go.Proofs.Ytjdlcocncacmlaa
