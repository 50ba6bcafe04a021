/- Contracts of Apply, of the package fields and of the reference: what a delta makes of a thing. -/
import Derived.Test.YtjdlcocncacmlaaFA
namespace Go.Proofs.Ytjdlcocncacmlaa
open Go.RowKit
set_option linter.unusedVariables false
theorem indexA_f0 (W : World) (v0 v1 v2 v3 v4 v5 v6 v7 : Value) : (Instr.index 38 (.agg #[v0, v1, v2, v3, v4, v5, v6, v7]) (.int .i64 0)).run Try.prog W = .ok (.agg #[v0, v1]) W := by kernel_rfl
theorem indexA_f1 (W : World) (v0 v1 v2 v3 v4 v5 v6 v7 : Value) : (Instr.index 38 (.agg #[v0, v1, v2, v3, v4, v5, v6, v7]) (.int .i64 1)).run Try.prog W = .ok (.agg #[v2, v3]) W := by kernel_rfl
theorem indexA_f2 (W : World) (v0 v1 v2 v3 v4 v5 v6 v7 : Value) : (Instr.index 38 (.agg #[v0, v1, v2, v3, v4, v5, v6, v7]) (.int .i64 2)).run Try.prog W = .ok (.agg #[v4, v5]) W := by kernel_rfl
theorem indexA_f3 (W : World) (v0 v1 v2 v3 v4 v5 v6 v7 : Value) : (Instr.index 38 (.agg #[v0, v1, v2, v3, v4, v5, v6, v7]) (.int .i64 3)).run Try.prog W = .ok (.agg #[v6, v7]) W := by kernel_rfl
def zT : Th := ⟨0, 0, 0, zF, zF, zF, zF⟩
theorem aK_same {t : Th} {d : Dl} {k : Nat} {T : Th} (h : aK t d k = T) (hr : d.m.testBit (k + 1) = false) : aK t d (k + 1) = T := by
  rw [aK, hr, h]; rfl
theorem aK_next {t : Th} {d : Dl} {k : Nat} {T : Th} (h : aK t d k = T) (hr : d.m.testBit (k + 1) = true) : aK t d (k + 1) = T.set k (d.f k) := by
  rw [aK, hr, h]; rfl
theorem has_at {m k : Nat} {r : Bool} (h : m.testBit k = r) (w : World) (hm : m ≤ 255) (hk : k ≤ 4) : Calls Try.prog 38 #[.int .u8 m, .int .i64 k] w fun e w' => e = .returned (.bool r) ∧ w' = w := by
  rw [← h]; exact fields_has w m k hm hk
theorem bit_ne (m k : Nat) (hm : m ≤ 255) : (bits .and .u8 ((m : Int) / 2 ^ k) 1 != 0) = m.testBit k := by
  have h := bit_at m k hm
  have e : ((m : Int) / 2 ^ k) = ((m / 2 ^ k : Nat) : Int) := by simp
  have h1 : m / 2 ^ k ≤ m := Nat.div_le_self _ _
  have h2 := u8_and_nat (m / 2 ^ k) 1 (by omega) (by omega)
  rw [← h, e, show (1 : Int) = ((1 : Nat) : Int) from rfl, h2, Nat.and_one_is_mod]
  rw [Bool.eq_iff_iff]
  simp
  omega
theorem bit_eq0 (m k : Nat) (hm : m ≤ 255) : (bits .and .u8 ((m : Int) / 2 ^ k) 1 == 0) = !m.testBit k := by
  have h := bit_ne m k hm
  rw [← h]
  simp [bne]
theorem below_setT {B : Nat} {w w' : World} (h : Below B w w') {g : Nat} (hg : B ≤ g) (v0 v1 v2 v3 v4 v5 v6 v7 v8 v9 v10 : Value) : Below B w (((((((((((w'.setCell ⟨g, 0, none⟩ v0).setCell ⟨g, 1, none⟩ v1).setCell ⟨g, 2, none⟩ v2).setCell ⟨g, 3, none⟩ v3).setCell ⟨g, 4, none⟩ v4).setCell ⟨g, 5, none⟩ v5).setCell ⟨g, 6, none⟩ v6).setCell ⟨g, 7, none⟩ v7).setCell ⟨g, 8, none⟩ v8).setCell ⟨g, 9, none⟩ v9).setCell ⟨g, 10, none⟩ v10) :=
  ((((((((((h.setCell hg v0).setCell hg v1).setCell hg v2).setCell hg v3).setCell hg v4).setCell hg v5).setCell hg v6).setCell hg v7).setCell hg v8).setCell hg v9).setCell hg v10
set_option maxHeartbeats 2000000 in
theorem fields_apply (w : World) (t : Th) (d : Dl) (hm : d.m < 256) : Calls Try.prog 31 #[t.v, d.v] w fun e w' => e = .returned (apply t d).v ∧ Below w.heap.size w w' := by
  obtain ⟨q, hq⟩ : ∃ q, d.m.testBit 0 = q := ⟨_, rfl⟩
  have HQ : Hid (d.m.testBit 0 = q) := hq
  clear hq
  go_enter Try.func31, Try.ntmps31
  cases q
  · go_wp2_with fail
    refine (has_at (k := 0) HQ.out _ (by omega) (by omega)).mono ?_
    rintro x w1 ⟨rfl, rfl⟩
    go_wp2_with fail
    go_loopw [15] (fun i wr => ∃ k : Nat, k ≤ 4 ∧ i = .int .i64 k ∧ wr.heap[w.heap.size + 1]? = some d.o ∧ wr.heap[w.heap.size + 1 + 1]? = some zT.o ∧ wr.heap[w.heap.size]? = some (aK t d k).o ∧ Below w.heap.size w wr) (fun i _ => 4 - (intOf i).toNat)
    case atStart =>
      refine ⟨0, by omega, rfl, ?_, ?_, ?_, ?_⟩
      · exact old_at (new_at _ _ _ (by simp)) _
      · exact new_at _ _ _ (by simp)
      · refine (old_at (old_at (new_at _ _ _ rfl) _) _).trans ?_
        simp only [aK, HQ.out]; rfl
      · exact Go.Joins.below_alloc3 _ _ _ _
    case round =>
      obtain ⟨k, hk, rfl, h1, h2, h3, hb⟩ := hrel
      have l2 := at_lt h2
      have l3 := at_lt h3
      obtain ⟨T, hT⟩ : ∃ T, aK t d k = T := ⟨_, rfl⟩
      rw [hT] at h3
      have HT : Hid (aK t d k = T) := hT
      clear hT
      have c1 := cells_at h1
      have c2 := cells_at h2
      have c3 := cells_at h3
      have l0 : w.heap.size < wr.heap.size := by omega
      have l1 : w.heap.size + 1 < wr.heap.size := by omega
      have H1 : Hid (wr.heap[w.heap.size + 1]? = some d.o) := h1
      have H2 : Hid (wr.heap[w.heap.size + 1 + 1]? = some zT.o) := h2
      have H3 : Hid (wr.heap[w.heap.size]? = some T.o) := h3
      clear h1 h2 h3
      obtain rfl | rfl | rfl | rfl | rfl : k = 0 ∨ k = 1 ∨ k = 2 ∨ k = 3 ∨ k = 4 := by omega
      · have hI := indexA_f0
        obtain ⟨r, hr⟩ : ∃ r, d.m.testBit 1 = r := ⟨_, rfl⟩
        have HR : Hid (d.m.testBit 1 = r) := hr
        clear hr
        cases r
        · go_wp2_with fail
          refine (has_at (k := 1) HR.out _ (by omega) (by omega)).mono ?_
          rintro x w1 ⟨rfl, rfl⟩
          go_wp2_with fail
          first | go_roundw | refine ⟨?rel, ?measure⟩
          case rel =>
            refine ⟨1, by omega, rfl, old_at H1.out _, old_at H2.out _, ?_, ?_⟩
            · rw [aK_same HT.out HR.out]; exact old_at H3.out _
            · exact hb.alloc (by omega) _
          case measure => simp [intOf]
        · go_wp2_with fail
          refine (has_at (k := 1) HR.out _ (by omega) (by omega)).mono ?_
          rintro x w1 ⟨rfl, rfl⟩
          go_wp2_with fail
          first | go_roundw | refine ⟨?rel, ?measure⟩
          case rel =>
            refine ⟨1, by omega, rfl, old_at (set_off (set_off H1.out (by omega) _) (by omega) _) _, old_at (set_off (set_off H2.out (by omega) _) (by omega) _) _, ?_, ?_⟩
            · refine (old_at (set_at (set_at H3.out _ rfl) _ rfl) _).trans ?_
              rw [aK_next HT.out HR.out]
              rfl
            · exact ((hb.setCell (by simp; try omega) _).setCell (by simp; try omega) _).alloc (by simp [World.setCell]; omega) _
          case measure => simp [intOf]
      · have hI := indexA_f1
        obtain ⟨r, hr⟩ : ∃ r, d.m.testBit 2 = r := ⟨_, rfl⟩
        have HR : Hid (d.m.testBit 2 = r) := hr
        clear hr
        cases r
        · go_wp2_with fail
          refine (has_at (k := 2) HR.out _ (by omega) (by omega)).mono ?_
          rintro x w1 ⟨rfl, rfl⟩
          go_wp2_with fail
          first | go_roundw | refine ⟨?rel, ?measure⟩
          case rel =>
            refine ⟨2, by omega, rfl, old_at H1.out _, old_at H2.out _, ?_, ?_⟩
            · rw [aK_same HT.out HR.out]; exact old_at H3.out _
            · exact hb.alloc (by omega) _
          case measure => simp [intOf]
        · go_wp2_with fail
          refine (has_at (k := 2) HR.out _ (by omega) (by omega)).mono ?_
          rintro x w1 ⟨rfl, rfl⟩
          go_wp2_with fail
          first | go_roundw | refine ⟨?rel, ?measure⟩
          case rel =>
            refine ⟨2, by omega, rfl, old_at (set_off (set_off H1.out (by omega) _) (by omega) _) _, old_at (set_off (set_off H2.out (by omega) _) (by omega) _) _, ?_, ?_⟩
            · refine (old_at (set_at (set_at H3.out _ rfl) _ rfl) _).trans ?_
              rw [aK_next HT.out HR.out]
              rfl
            · exact ((hb.setCell (by simp; try omega) _).setCell (by simp; try omega) _).alloc (by simp [World.setCell]; omega) _
          case measure => simp [intOf]
      · have hI := indexA_f2
        obtain ⟨r, hr⟩ : ∃ r, d.m.testBit 3 = r := ⟨_, rfl⟩
        have HR : Hid (d.m.testBit 3 = r) := hr
        clear hr
        cases r
        · go_wp2_with fail
          refine (has_at (k := 3) HR.out _ (by omega) (by omega)).mono ?_
          rintro x w1 ⟨rfl, rfl⟩
          go_wp2_with fail
          first | go_roundw | refine ⟨?rel, ?measure⟩
          case rel =>
            refine ⟨3, by omega, rfl, old_at H1.out _, old_at H2.out _, ?_, ?_⟩
            · rw [aK_same HT.out HR.out]; exact old_at H3.out _
            · exact hb.alloc (by omega) _
          case measure => simp [intOf]
        · go_wp2_with fail
          refine (has_at (k := 3) HR.out _ (by omega) (by omega)).mono ?_
          rintro x w1 ⟨rfl, rfl⟩
          go_wp2_with fail
          first | go_roundw | refine ⟨?rel, ?measure⟩
          case rel =>
            refine ⟨3, by omega, rfl, old_at (set_off (set_off H1.out (by omega) _) (by omega) _) _, old_at (set_off (set_off H2.out (by omega) _) (by omega) _) _, ?_, ?_⟩
            · refine (old_at (set_at (set_at H3.out _ rfl) _ rfl) _).trans ?_
              rw [aK_next HT.out HR.out]
              rfl
            · exact ((hb.setCell (by simp; try omega) _).setCell (by simp; try omega) _).alloc (by simp [World.setCell]; omega) _
          case measure => simp [intOf]
      · have hI := indexA_f3
        obtain ⟨r, hr⟩ : ∃ r, d.m.testBit 4 = r := ⟨_, rfl⟩
        have HR : Hid (d.m.testBit 4 = r) := hr
        clear hr
        cases r
        · go_wp2_with fail
          refine (has_at (k := 4) HR.out _ (by omega) (by omega)).mono ?_
          rintro x w1 ⟨rfl, rfl⟩
          go_wp2_with fail
          first | go_roundw | refine ⟨?rel, ?measure⟩
          case rel =>
            refine ⟨4, by omega, rfl, old_at H1.out _, old_at H2.out _, ?_, ?_⟩
            · rw [aK_same HT.out HR.out]; exact old_at H3.out _
            · exact hb.alloc (by omega) _
          case measure => simp [intOf]
        · go_wp2_with fail
          refine (has_at (k := 4) HR.out _ (by omega) (by omega)).mono ?_
          rintro x w1 ⟨rfl, rfl⟩
          go_wp2_with fail
          first | go_roundw | refine ⟨?rel, ?measure⟩
          case rel =>
            refine ⟨4, by omega, rfl, old_at (set_off (set_off H1.out (by omega) _) (by omega) _) _, old_at (set_off (set_off H2.out (by omega) _) (by omega) _) _, ?_, ?_⟩
            · refine (old_at (set_at (set_at H3.out _ rfl) _ rfl) _).trans ?_
              rw [aK_next HT.out HR.out]
              rfl
            · exact ((hb.setCell (by simp; try omega) _).setCell (by simp; try omega) _).alloc (by simp [World.setCell]; omega) _
          case measure => simp [intOf]
      · go_wp2_with fail
        exact bodyPost_ret (v := T.v) (by simp [results, Try.results31, go_sem, c2]) rfl ⟨by unfold apply; rw [HT.out], below_setT hb (by omega) _ _ _ _ _ _ _ _ _ _ _⟩
  · go_wp2_with fail
    refine (has_at (k := 0) HQ.out _ (by omega) (by omega)).mono ?_
    rintro x w1 ⟨rfl, rfl⟩
    go_wp2_with fail
    go_loopw [15] (fun i wr => ∃ k : Nat, k ≤ 4 ∧ i = .int .i64 k ∧ wr.heap[w.heap.size + 1]? = some d.o ∧ wr.heap[w.heap.size + 1 + 1]? = some zT.o ∧ wr.heap[w.heap.size]? = some (aK t d k).o ∧ Below w.heap.size w wr) (fun i _ => 4 - (intOf i).toNat)
    case atStart =>
      refine ⟨0, by omega, rfl, ?_, ?_, ?_, ?_⟩
      · exact old_at (new_at _ _ _ (by simp)) _
      · exact new_at _ _ _ (by simp)
      · refine (old_at (old_at (new_at _ _ _ rfl) _) _).trans ?_
        simp only [aK, HQ.out]; rfl
      · exact Go.Joins.below_alloc3 _ _ _ _
    case round =>
      obtain ⟨k, hk, rfl, h1, h2, h3, hb⟩ := hrel
      have l2 := at_lt h2
      have l3 := at_lt h3
      obtain ⟨T, hT⟩ : ∃ T, aK t d k = T := ⟨_, rfl⟩
      rw [hT] at h3
      have HT : Hid (aK t d k = T) := hT
      clear hT
      have c1 := cells_at h1
      have c2 := cells_at h2
      have c3 := cells_at h3
      have l0 : w.heap.size < wr.heap.size := by omega
      have l1 : w.heap.size + 1 < wr.heap.size := by omega
      have H1 : Hid (wr.heap[w.heap.size + 1]? = some d.o) := h1
      have H2 : Hid (wr.heap[w.heap.size + 1 + 1]? = some zT.o) := h2
      have H3 : Hid (wr.heap[w.heap.size]? = some T.o) := h3
      clear h1 h2 h3
      obtain rfl | rfl | rfl | rfl | rfl : k = 0 ∨ k = 1 ∨ k = 2 ∨ k = 3 ∨ k = 4 := by omega
      · have hI := indexA_f0
        obtain ⟨r, hr⟩ : ∃ r, d.m.testBit 1 = r := ⟨_, rfl⟩
        have HR : Hid (d.m.testBit 1 = r) := hr
        clear hr
        cases r
        · go_wp2_with fail
          refine (has_at (k := 1) HR.out _ (by omega) (by omega)).mono ?_
          rintro x w1 ⟨rfl, rfl⟩
          go_wp2_with fail
          first | go_roundw | refine ⟨?rel, ?measure⟩
          case rel =>
            refine ⟨1, by omega, rfl, old_at H1.out _, old_at H2.out _, ?_, ?_⟩
            · rw [aK_same HT.out HR.out]; exact old_at H3.out _
            · exact hb.alloc (by omega) _
          case measure => simp [intOf]
        · go_wp2_with fail
          refine (has_at (k := 1) HR.out _ (by omega) (by omega)).mono ?_
          rintro x w1 ⟨rfl, rfl⟩
          go_wp2_with fail
          first | go_roundw | refine ⟨?rel, ?measure⟩
          case rel =>
            refine ⟨1, by omega, rfl, old_at (set_off (set_off H1.out (by omega) _) (by omega) _) _, old_at (set_off (set_off H2.out (by omega) _) (by omega) _) _, ?_, ?_⟩
            · refine (old_at (set_at (set_at H3.out _ rfl) _ rfl) _).trans ?_
              rw [aK_next HT.out HR.out]
              rfl
            · exact ((hb.setCell (by simp; try omega) _).setCell (by simp; try omega) _).alloc (by simp [World.setCell]; omega) _
          case measure => simp [intOf]
      · have hI := indexA_f1
        obtain ⟨r, hr⟩ : ∃ r, d.m.testBit 2 = r := ⟨_, rfl⟩
        have HR : Hid (d.m.testBit 2 = r) := hr
        clear hr
        cases r
        · go_wp2_with fail
          refine (has_at (k := 2) HR.out _ (by omega) (by omega)).mono ?_
          rintro x w1 ⟨rfl, rfl⟩
          go_wp2_with fail
          first | go_roundw | refine ⟨?rel, ?measure⟩
          case rel =>
            refine ⟨2, by omega, rfl, old_at H1.out _, old_at H2.out _, ?_, ?_⟩
            · rw [aK_same HT.out HR.out]; exact old_at H3.out _
            · exact hb.alloc (by omega) _
          case measure => simp [intOf]
        · go_wp2_with fail
          refine (has_at (k := 2) HR.out _ (by omega) (by omega)).mono ?_
          rintro x w1 ⟨rfl, rfl⟩
          go_wp2_with fail
          first | go_roundw | refine ⟨?rel, ?measure⟩
          case rel =>
            refine ⟨2, by omega, rfl, old_at (set_off (set_off H1.out (by omega) _) (by omega) _) _, old_at (set_off (set_off H2.out (by omega) _) (by omega) _) _, ?_, ?_⟩
            · refine (old_at (set_at (set_at H3.out _ rfl) _ rfl) _).trans ?_
              rw [aK_next HT.out HR.out]
              rfl
            · exact ((hb.setCell (by simp; try omega) _).setCell (by simp; try omega) _).alloc (by simp [World.setCell]; omega) _
          case measure => simp [intOf]
      · have hI := indexA_f2
        obtain ⟨r, hr⟩ : ∃ r, d.m.testBit 3 = r := ⟨_, rfl⟩
        have HR : Hid (d.m.testBit 3 = r) := hr
        clear hr
        cases r
        · go_wp2_with fail
          refine (has_at (k := 3) HR.out _ (by omega) (by omega)).mono ?_
          rintro x w1 ⟨rfl, rfl⟩
          go_wp2_with fail
          first | go_roundw | refine ⟨?rel, ?measure⟩
          case rel =>
            refine ⟨3, by omega, rfl, old_at H1.out _, old_at H2.out _, ?_, ?_⟩
            · rw [aK_same HT.out HR.out]; exact old_at H3.out _
            · exact hb.alloc (by omega) _
          case measure => simp [intOf]
        · go_wp2_with fail
          refine (has_at (k := 3) HR.out _ (by omega) (by omega)).mono ?_
          rintro x w1 ⟨rfl, rfl⟩
          go_wp2_with fail
          first | go_roundw | refine ⟨?rel, ?measure⟩
          case rel =>
            refine ⟨3, by omega, rfl, old_at (set_off (set_off H1.out (by omega) _) (by omega) _) _, old_at (set_off (set_off H2.out (by omega) _) (by omega) _) _, ?_, ?_⟩
            · refine (old_at (set_at (set_at H3.out _ rfl) _ rfl) _).trans ?_
              rw [aK_next HT.out HR.out]
              rfl
            · exact ((hb.setCell (by simp; try omega) _).setCell (by simp; try omega) _).alloc (by simp [World.setCell]; omega) _
          case measure => simp [intOf]
      · have hI := indexA_f3
        obtain ⟨r, hr⟩ : ∃ r, d.m.testBit 4 = r := ⟨_, rfl⟩
        have HR : Hid (d.m.testBit 4 = r) := hr
        clear hr
        cases r
        · go_wp2_with fail
          refine (has_at (k := 4) HR.out _ (by omega) (by omega)).mono ?_
          rintro x w1 ⟨rfl, rfl⟩
          go_wp2_with fail
          first | go_roundw | refine ⟨?rel, ?measure⟩
          case rel =>
            refine ⟨4, by omega, rfl, old_at H1.out _, old_at H2.out _, ?_, ?_⟩
            · rw [aK_same HT.out HR.out]; exact old_at H3.out _
            · exact hb.alloc (by omega) _
          case measure => simp [intOf]
        · go_wp2_with fail
          refine (has_at (k := 4) HR.out _ (by omega) (by omega)).mono ?_
          rintro x w1 ⟨rfl, rfl⟩
          go_wp2_with fail
          first | go_roundw | refine ⟨?rel, ?measure⟩
          case rel =>
            refine ⟨4, by omega, rfl, old_at (set_off (set_off H1.out (by omega) _) (by omega) _) _, old_at (set_off (set_off H2.out (by omega) _) (by omega) _) _, ?_, ?_⟩
            · refine (old_at (set_at (set_at H3.out _ rfl) _ rfl) _).trans ?_
              rw [aK_next HT.out HR.out]
              rfl
            · exact ((hb.setCell (by simp; try omega) _).setCell (by simp; try omega) _).alloc (by simp [World.setCell]; omega) _
          case measure => simp [intOf]
      · go_wp2_with fail
        exact bodyPost_ret (v := T.v) (by simp [results, Try.results31, go_sem, c2]) rfl ⟨by unfold apply; rw [HT.out], below_setT hb (by omega) _ _ _ _ _ _ _ _ _ _ _⟩
end Go.Proofs.Ytjdlcocncacmlaa
