/- For every three things a, b, c: FieldsChain answers true: changes one behind the other make what the change from the first to the last makes (things with a text above 40 bytes are passed over by the statement itself). -/
import Derived.Test.YtaokhgbkghbpmaaKnown6
import Derived.Test.YtaokhgbkghbpmaaFldL
import Derived.Deep.Cut
import Derived.ProofKit
import Derived.OpenShut
import Derived.ShutString
import Derived.ChangeOld
import Derived.Below
import Derived.SizedLaws
namespace Go.Proofs.Ytaokhgbkghbpmaa
open Go.ChangeShapes Go.WideShapes Go.ChangeAt Go.RowKit
open Go.ChangeMaps (open_string shut_string)
set_option linter.unusedVariables false

theorem set11_at {W : World} {g : Nat} {t : TypeId} {u0 u1 u2 u3 u4 u5 u6 u7 u8 u9 u10 : Value} (h : W.heap[g]? = some (.cells #[u0, u1, u2, u3, u4, u5, u6, u7, u8, u9, u10] t (0, 0))) (v0 v1 v2 v3 v4 v5 v6 v7 v8 v9 v10 : Value) : (((((((((((W.setCell ⟨g, 0, none⟩ v0).setCell ⟨g, 1, none⟩ v1).setCell ⟨g, 2, none⟩ v2).setCell ⟨g, 3, none⟩ v3).setCell ⟨g, 4, none⟩ v4).setCell ⟨g, 5, none⟩ v5).setCell ⟨g, 6, none⟩ v6).setCell ⟨g, 7, none⟩ v7).setCell ⟨g, 8, none⟩ v8).setCell ⟨g, 9, none⟩ v9).setCell ⟨g, 10, none⟩ v10).heap[g]? = some (.cells #[v0, v1, v2, v3, v4, v5, v6, v7, v8, v9, v10] t (0, 0)) := by
  have h0 := set_at (cs' := #[v0, u1, u2, u3, u4, u5, u6, u7, u8, u9, u10]) (i := 0) h v0 rfl
  have h1 := set_at (cs' := #[v0, v1, u2, u3, u4, u5, u6, u7, u8, u9, u10]) (i := 1) h0 v1 rfl
  have h2 := set_at (cs' := #[v0, v1, v2, u3, u4, u5, u6, u7, u8, u9, u10]) (i := 2) h1 v2 rfl
  have h3 := set_at (cs' := #[v0, v1, v2, v3, u4, u5, u6, u7, u8, u9, u10]) (i := 3) h2 v3 rfl
  have h4 := set_at (cs' := #[v0, v1, v2, v3, v4, u5, u6, u7, u8, u9, u10]) (i := 4) h3 v4 rfl
  have h5 := set_at (cs' := #[v0, v1, v2, v3, v4, v5, u6, u7, u8, u9, u10]) (i := 5) h4 v5 rfl
  have h6 := set_at (cs' := #[v0, v1, v2, v3, v4, v5, v6, u7, u8, u9, u10]) (i := 6) h5 v6 rfl
  have h7 := set_at (cs' := #[v0, v1, v2, v3, v4, v5, v6, v7, u8, u9, u10]) (i := 7) h6 v7 rfl
  have h8 := set_at (cs' := #[v0, v1, v2, v3, v4, v5, v6, v7, v8, u9, u10]) (i := 8) h7 v8 rfl
  have h9 := set_at (cs' := #[v0, v1, v2, v3, v4, v5, v6, v7, v8, v9, u10]) (i := 9) h8 v9 rfl
  have h10 := set_at (cs' := #[v0, v1, v2, v3, v4, v5, v6, v7, v8, v9, v10]) (i := 10) h9 v10 rfl
  exact h10
theorem set11_off {W : World} {g b : Nat} {p : Obj} (h : W.heap[b]? = some p) (hb : b ≠ g) (v0 v1 v2 v3 v4 v5 v6 v7 v8 v9 v10 : Value) : (((((((((((W.setCell ⟨g, 0, none⟩ v0).setCell ⟨g, 1, none⟩ v1).setCell ⟨g, 2, none⟩ v2).setCell ⟨g, 3, none⟩ v3).setCell ⟨g, 4, none⟩ v4).setCell ⟨g, 5, none⟩ v5).setCell ⟨g, 6, none⟩ v6).setCell ⟨g, 7, none⟩ v7).setCell ⟨g, 8, none⟩ v8).setCell ⟨g, 9, none⟩ v9).setCell ⟨g, 10, none⟩ v10).heap[b]? = some p :=
  (set_off (set_off (set_off (set_off (set_off (set_off (set_off (set_off (set_off (set_off (set_off h hb _) hb _) hb _) hb _) hb _) hb _) hb _) hb _) hb _) hb _) hb _)
theorem few_thing_at {d : Th} {r : Bool} (h : few4 d.f = r) (w : World) (hi : inT d) : Calls Try.prog 10 #[d.v] w fun e w' => e = .returned (.bool r) ∧ Below w.heap.size w w' := by
  rw [← h]; exact few_thing w d hi
theorem wOr (m n : Nat) (h : m ≤ 31) (h2 : n ≤ 31) : bits .or .u8 (m : Int) (n : Int) = ((m ||| n : Nat) : Int) := u8_or_nat m n (by omega) (by omega)
theorem or31 {m n : Nat} (h : m ≤ 31) (h2 : n ≤ 31) : m ||| n ≤ 31 := by
  have := Nat.or_lt_two_pow (n := 5) (show m < 2 ^ 5 by omega) (show n < 2 ^ 5 by omega)
  omega
set_option maxRecDepth 100000 in
set_option maxHeartbeats 8000000 in
theorem fieldsChain_walk (w : World) (a0 : Th) (w0 : inT a0) (a1 : Th) (w1 : inT a1) (a2 : Th) (w2 : inT a2) : Calls Try.prog 6 #[a0.v, a1.v, a2.v] w fun e w' => e = .returned (.bool true) ∧ Below w.heap.size w w' := by
  have W0 := hid w0
  have W1 := hid w1
  have W2 := hid w2
  clear w0 w1 w2
  have K0 : Hid ((((w.alloc a0.o).alloc a1.o).alloc a2.o).heap[w.heap.size]? = some a0.o) := hid (old_at (old_at (new_at _ _ _ rfl) _) _)
  have K1 : Hid ((((w.alloc a0.o).alloc a1.o).alloc a2.o).heap[w.heap.size + 1]? = some a1.o) := hid (old_at (new_at _ _ _ (by simp)) _)
  have K2 : Hid ((((w.alloc a0.o).alloc a1.o).alloc a2.o).heap[w.heap.size + 1 + 1]? = some a2.o) := hid (new_at _ _ _ (by simp))
  obtain ⟨f0, h0⟩ : ∃ f, Hid (few4 a0.f = f) := ⟨_, rfl⟩
  obtain ⟨f1, h1⟩ : ∃ f, Hid (few4 a1.f = f) := ⟨_, rfl⟩
  obtain ⟨f2, h2⟩ : ∃ f, Hid (few4 a2.f = f) := ⟨_, rfl⟩
  go_enter Try.func6, Try.ntmps6
  go_wp2_with fail
  refine (known_holds _).mono ?_
  rintro x w3 ⟨rfl, hb⟩
  have hB := below_on (Go.Joins.below_alloc3 w a0.o a1.o a2.o) hb
  replace K0 := hid (var_on hb K0.out (at_lt K0.out))
  replace K1 := hid (var_on hb K1.out (at_lt K1.out))
  replace K2 := hid (var_on hb K2.out (at_lt K2.out))
  have c0 := cells_at K0.out
  have c1 := cells_at K1.out
  have c2 := cells_at K2.out
  have l0 := at_lt K0.out
  have l1 := at_lt K1.out
  have l2 := at_lt K2.out
  clear hb
  go_wp2_with fail
  refine (few_thing_at h0.out _ W0.out).mono ?_
  rintro x w4 ⟨rfl, hb⟩
  replace hB := below_on hB hb
  replace K0 := hid (var_on hb K0.out l0)
  replace K1 := hid (var_on hb K1.out l1)
  replace K2 := hid (var_on hb K2.out l2)
  clear hb c0 c1 c2
  have c0 := cells_at K0.out
  have c1 := cells_at K1.out
  have c2 := cells_at K2.out
  replace l0 := at_lt K0.out
  replace l1 := at_lt K1.out
  replace l2 := at_lt K2.out
  cases f0
  · go_wp2_with fail
    go_ret
    exact ⟨rfl, hB⟩
  go_wp2_with fail
  refine (few_thing_at h1.out _ W1.out).mono ?_
  rintro x w4 ⟨rfl, hb⟩
  replace hB := below_on hB hb
  replace K0 := hid (var_on hb K0.out l0)
  replace K1 := hid (var_on hb K1.out l1)
  replace K2 := hid (var_on hb K2.out l2)
  clear hb c0 c1 c2
  have c0 := cells_at K0.out
  have c1 := cells_at K1.out
  have c2 := cells_at K2.out
  replace l0 := at_lt K0.out
  replace l1 := at_lt K1.out
  replace l2 := at_lt K2.out
  cases f1
  · go_wp2_with fail
    go_ret
    exact ⟨rfl, hB⟩
  go_wp2_with fail
  refine (few_thing_at h2.out _ W2.out).mono ?_
  rintro x w4 ⟨rfl, hb⟩
  replace hB := below_on hB hb
  replace K0 := hid (var_on hb K0.out l0)
  replace K1 := hid (var_on hb K1.out l1)
  replace K2 := hid (var_on hb K2.out l2)
  clear hb c0 c1 c2
  have c0 := cells_at K0.out
  have c1 := cells_at K1.out
  have c2 := cells_at K2.out
  replace l0 := at_lt K0.out
  replace l1 := at_lt K1.out
  replace l2 := at_lt K2.out
  cases f2
  · go_wp2_with fail
    go_ret
    exact ⟨rfl, hB⟩
  obtain ⟨B, HB⟩ : ∃ B : Th, Hid (B = ⟨a0.id, a1.x, a1.y, a1.f0, a1.f1, a1.f2, a1.f3⟩) := ⟨_, rfl⟩
  obtain ⟨C, HC⟩ : ∃ B : Th, Hid (B = ⟨a0.id, a2.x, a2.y, a2.f0, a2.f1, a2.f2, a2.f3⟩) := ⟨_, rfl⟩
  go_upto_region 5 with fail
  go_cut [] from 15 (fun wx => wx.heap[w.heap.size]? = some a0.o ∧ wx.heap[w.heap.size + 1]? = some B.o ∧ wx.heap[w.heap.size + 1 + 1]? = some C.o ∧ Below w.heap.size w wx)
  case first =>
    go_region
    all_goals
      go_wp2_with fail
      go_meet
      rw [HB.out, HC.out]
      refine ⟨?_, ?_, ?_, ?_⟩
      · exact set_off (set_off K0.out (by omega) _) (by omega) _
      · first | exact set_off (set_at K1.out _ rfl) (by omega) _ | exact set_at (set_off K1.out (by omega) _) _ rfl
      · first | exact set_at (set_off K2.out (by omega) _) _ rfl | exact set_off (set_at K2.out _ rfl) (by omega) _
      · first | exact ((hB.setCell (by simp; try omega) _).setCell (by simp; try omega) _).drew | exact (hB.setCell (by simp; try omega) _).setCell (by simp; try omega) _
  case rest =>
    clear hB K0 K1 K2 c0 c1 c2 l0 l1 l2
    obtain ⟨k0, k1, k2, hB⟩ := hcut
    have K0 := hid k0
    have K1 := hid k1
    have K2 := hid k2
    clear k0 k1 k2
    have c0 := cells_at K0.out
    have c1 := cells_at K1.out
    have c2 := cells_at K2.out
    have l0 := at_lt K0.out
    have l1 := at_lt K1.out
    have l2 := at_lt K2.out
    have iB : Hid (a0.id = B.id) := hid (by rw [HB.out])
    have iC : Hid (a0.id = C.id) := hid (by rw [HC.out])
    have iBC : Hid (B.id = C.id) := hid (by rw [HB.out, HC.out])
    clear HB HC
    rcases e1 : diff a0 B with ⟨x, p⟩
    rcases e2 : diff B C with ⟨y, q⟩
    rcases e3 : diff a0 C with ⟨z, r⟩
    have mx := diff_m e1
    have my := diff_m e2
    have mz := diff_m e3
    have E1 := hid e1
    have E2 := hid e2
    have E3 := hid e3
    clear e1 e2 e3
    have oxy := wOr x.m y.m mx my
    have oxyz := wOr (x.m ||| y.m) z.m (or31 mx my) mz
    have qC := equal_th_at (a := C) (b := C) (eqT_self C)
    go_wp2_with fail
    refine (diff_at E1 _).mono ?_
    rintro v w6 ⟨rfl, hb⟩
    replace hB := below_on hB hb
    replace K0 := hid (var_on hb K0.out l0)
    replace K1 := hid (var_on hb K1.out l1)
    replace K2 := hid (var_on hb K2.out l2)
    clear hb c0 c1 c2
    have c0 := cells_at K0.out
    have c1 := cells_at K1.out
    have c2 := cells_at K2.out
    replace l0 := at_lt K0.out
    replace l1 := at_lt K1.out
    replace l2 := at_lt K2.out
    go_wp2_with fail
    refine (diff_at E2 _).mono ?_
    rintro v w7 ⟨rfl, hb⟩
    have K3 := hid (var_on (o := x.o) (g := w6.heap.size) hb (new_at _ _ _ rfl) (by simp))
    replace hB := below_on (hB.alloc hB.size _) hb
    replace K0 := hid (var_on hb (old_at K0.out _) (at_lt (old_at K0.out _)))
    replace K1 := hid (var_on hb (old_at K1.out _) (at_lt (old_at K1.out _)))
    replace K2 := hid (var_on hb (old_at K2.out _) (at_lt (old_at K2.out _)))
    clear hb c0 c1 c2
    have c0 := cells_at K0.out
    have c2 := cells_at K2.out
    replace l0 := at_lt K0.out
    replace l1 := at_lt K1.out
    replace l2 := at_lt K2.out
    have l3 := at_lt K3.out
    go_wp2_with fail
    refine (diff_at E3 _).mono ?_
    rintro v w8 ⟨rfl, hb⟩
    have K4 := hid (var_on (o := y.o) (g := w7.heap.size) hb (new_at _ _ _ rfl) (by simp))
    replace hB := below_on (hB.alloc hB.size _) hb
    replace K0 := hid (var_on hb (old_at K0.out _) (at_lt (old_at K0.out _)))
    replace K2 := hid (var_on hb (old_at K2.out _) (at_lt (old_at K2.out _)))
    replace K3 := hid (var_on hb (old_at K3.out _) (at_lt (old_at K3.out _)))
    clear hb c0 c2 K1 l1
    have c0 := cells_at K0.out
    have c3 := cells_at K3.out
    replace l0 := at_lt K0.out
    replace l2 := at_lt K2.out
    replace l3 := at_lt K3.out
    have l4 := at_lt K4.out
    clear c3
    go_upto_if 55 with fail
    obtain ⟨w9, hw9⟩ : ∃ W, W = (w8.alloc z.o).alloc a0.o := ⟨_, rfl⟩
    have K5 : Hid (w9.heap[w8.heap.size]? = some z.o) := hid (by rw [hw9]; exact old_at (new_at _ _ _ rfl) _)
    have K6 : Hid (w9.heap[w8.heap.size + 1]? = some a0.o) := hid (by rw [hw9]; exact new_at _ _ _ (by simp))
    replace hB : Below w.heap.size w w9 := by rw [hw9]; exact (hB.alloc hB.size _).alloc (by have := hB.size; simp; omega) _
    replace K0 := hid (show w9.heap[w.heap.size]? = some a0.o by rw [hw9]; exact old_at (old_at K0.out _) _)
    replace K2 := hid (show w9.heap[w.heap.size + 1 + 1]? = some C.o by rw [hw9]; exact old_at (old_at K2.out _) _)
    replace K3 := hid (show w9.heap[w6.heap.size]? = some x.o by rw [hw9]; exact old_at (old_at K3.out _) _)
    replace K4 := hid (show w9.heap[w7.heap.size]? = some y.o by rw [hw9]; exact old_at (old_at K4.out _) _)
    rw [← hw9]
    clear hw9 c0
    go_cut [] from 15 (fun wx => wx.heap[w.heap.size]? = some a0.o ∧ wx.heap[w.heap.size + 1 + 1]? = some C.o ∧ wx.heap[w6.heap.size]? = some x.o ∧ wx.heap[w7.heap.size]? = some y.o ∧ wx.heap[w8.heap.size]? = some z.o ∧ wx.heap[w8.heap.size + 1]? = some B.o ∧ Below w.heap.size w wx)
    case first =>
      cases p
      · have hno := diff_no iB.out E1.out
        go_wp2_with fail
        go_meet
        rw [hno] at K6
        exact ⟨K0.out, K2.out, K3.out, K4.out, K5.out, K6.out, hB⟩
      · have ap := hid (diff_apply iB.out E1.out)
        have d0 := cells_at K0.out
        have m0 := at_lt K0.out
        have d2 := cells_at K2.out
        have m2 := at_lt K2.out
        have d3 := cells_at K3.out
        have m3 := at_lt K3.out
        have d4 := cells_at K4.out
        have m4 := at_lt K4.out
        have d5 := cells_at K5.out
        have m5 := at_lt K5.out
        have d6 := cells_at K6.out
        have m6 := at_lt K6.out
        go_wp2_with fail
        refine (apply_at ap (by omega) _).mono ?_
        rintro v wv ⟨rfl, hb⟩
        replace hB := below_on hB hb
        replace K0 := hid (var_on hb K0.out m0)
        replace K2 := hid (var_on hb K2.out m2)
        replace K3 := hid (var_on hb K3.out m3)
        replace K4 := hid (var_on hb K4.out m4)
        replace K5 := hid (var_on hb K5.out m5)
        replace K6 := hid (var_on hb K6.out m6)
        clear hb d0 d2 d3 d4 d5 d6
        have d6 := cells_at K6.out
        go_wp2_with fail
        go_meet
        exact ⟨set11_off K0.out (by omega) _ _ _ _ _ _ _ _ _ _ _, set11_off K2.out (by omega) _ _ _ _ _ _ _ _ _ _ _, set11_off K3.out (by omega) _ _ _ _ _ _ _ _ _ _ _, set11_off K4.out (by omega) _ _ _ _ _ _ _ _ _ _ _, set11_off K5.out (by omega) _ _ _ _ _ _ _ _ _ _ _, set11_at K6.out _ _ _ _ _ _ _ _ _ _ _, below_setT hB (by omega) _ _ _ _ _ _ _ _ _ _ _⟩
    case rest =>
      clear hB K0 K2 K3 K4 K5 K6
      obtain ⟨k0, k2, k3, k4, k5, k6, hB⟩ := hcut
      have K0 := hid k0
      have K2 := hid k2
      have K3 := hid k3
      have K4 := hid k4
      have K5 := hid k5
      have K6 := hid k6
      clear k0 k2 k3 k4 k5 k6
      go_upto_if 59 with fail
      go_cut [] from 15 (fun wx => wx.heap[w.heap.size]? = some a0.o ∧ wx.heap[w.heap.size + 1 + 1]? = some C.o ∧ wx.heap[w6.heap.size]? = some x.o ∧ wx.heap[w7.heap.size]? = some y.o ∧ wx.heap[w8.heap.size]? = some z.o ∧ wx.heap[w8.heap.size + 1]? = some C.o ∧ Below w.heap.size w wx)
      case first =>
        cases q
        · have hno := diff_no iBC.out E2.out
          go_wp2_with fail
          go_meet
          rw [hno] at K6
          exact ⟨K0.out, K2.out, K3.out, K4.out, K5.out, K6.out, hB⟩
        · have ap := hid (diff_apply iBC.out E2.out)
          have d0 := cells_at K0.out
          have m0 := at_lt K0.out
          have d2 := cells_at K2.out
          have m2 := at_lt K2.out
          have d3 := cells_at K3.out
          have m3 := at_lt K3.out
          have d4 := cells_at K4.out
          have m4 := at_lt K4.out
          have d5 := cells_at K5.out
          have m5 := at_lt K5.out
          have d6 := cells_at K6.out
          have m6 := at_lt K6.out
          go_wp2_with fail
          refine (apply_at ap (by omega) _).mono ?_
          rintro v wv ⟨rfl, hb⟩
          replace hB := below_on hB hb
          replace K0 := hid (var_on hb K0.out m0)
          replace K2 := hid (var_on hb K2.out m2)
          replace K3 := hid (var_on hb K3.out m3)
          replace K4 := hid (var_on hb K4.out m4)
          replace K5 := hid (var_on hb K5.out m5)
          replace K6 := hid (var_on hb K6.out m6)
          clear hb d0 d2 d3 d4 d5 d6
          have d6 := cells_at K6.out
          go_wp2_with fail
          go_meet
          exact ⟨set11_off K0.out (by omega) _ _ _ _ _ _ _ _ _ _ _, set11_off K2.out (by omega) _ _ _ _ _ _ _ _ _ _ _, set11_off K3.out (by omega) _ _ _ _ _ _ _ _ _ _ _, set11_off K4.out (by omega) _ _ _ _ _ _ _ _ _ _ _, set11_off K5.out (by omega) _ _ _ _ _ _ _ _ _ _ _, set11_at K6.out _ _ _ _ _ _ _ _ _ _ _, below_setT hB (by omega) _ _ _ _ _ _ _ _ _ _ _⟩
      case rest =>
        clear hB K0 K2 K3 K4 K5 K6
        obtain ⟨k0, k2, k3, k4, k5, k6, hB⟩ := hcut
        have K0 := hid k0
        have K2 := hid k2
        have K3 := hid k3
        have K4 := hid k4
        have K5 := hid k5
        have K6 := hid k6
        clear k0 k2 k3 k4 k5 k6
        have d0 := cells_at K0.out
        have m0 := at_lt K0.out
        go_upto_if 64 with fail
        obtain ⟨w10, hw10⟩ : ∃ W, W = wc.alloc a0.o := ⟨_, rfl⟩
        have K7 : Hid (w10.heap[wc.heap.size]? = some a0.o) := hid (by rw [hw10]; exact new_at _ _ _ rfl)
        replace hB : Below w.heap.size w w10 := by rw [hw10]; exact hB.alloc hB.size _
        have l6 := at_lt K6.out
        have k0 := at_lt K0.out
        replace K0 := hid (show w10.heap[w.heap.size]? = some a0.o by rw [hw10]; exact old_at K0.out _)
        have k2 := at_lt K2.out
        replace K2 := hid (show w10.heap[w.heap.size + 1 + 1]? = some C.o by rw [hw10]; exact old_at K2.out _)
        have k3 := at_lt K3.out
        replace K3 := hid (show w10.heap[w6.heap.size]? = some x.o by rw [hw10]; exact old_at K3.out _)
        have k4 := at_lt K4.out
        replace K4 := hid (show w10.heap[w7.heap.size]? = some y.o by rw [hw10]; exact old_at K4.out _)
        have k5 := at_lt K5.out
        replace K5 := hid (show w10.heap[w8.heap.size]? = some z.o by rw [hw10]; exact old_at K5.out _)
        have k6 := at_lt K6.out
        replace K6 := hid (show w10.heap[w8.heap.size + 1]? = some C.o by rw [hw10]; exact old_at K6.out _)
        rw [← hw10]
        clear hw10 d0
        go_cut [] from 15 (fun wx => wx.heap[w.heap.size]? = some a0.o ∧ wx.heap[w.heap.size + 1 + 1]? = some C.o ∧ wx.heap[w6.heap.size]? = some x.o ∧ wx.heap[w7.heap.size]? = some y.o ∧ wx.heap[w8.heap.size]? = some z.o ∧ wx.heap[w8.heap.size + 1]? = some C.o ∧ wx.heap[wc.heap.size]? = some C.o ∧ Below w.heap.size w wx)
        case first =>
          cases r
          · have hno := diff_no iC.out E3.out
            go_wp2_with fail
            go_meet
            rw [hno] at K7
            exact ⟨K0.out, K2.out, K3.out, K4.out, K5.out, K6.out, K7.out, hB⟩
          · have ap := hid (diff_apply iC.out E3.out)
            have d0 := cells_at K0.out
            have m0 := at_lt K0.out
            have d2 := cells_at K2.out
            have m2 := at_lt K2.out
            have d3 := cells_at K3.out
            have m3 := at_lt K3.out
            have d4 := cells_at K4.out
            have m4 := at_lt K4.out
            have d5 := cells_at K5.out
            have m5 := at_lt K5.out
            have d6 := cells_at K6.out
            have m6 := at_lt K6.out
            have d7 := cells_at K7.out
            have m7 := at_lt K7.out
            go_wp2_with fail
            refine (apply_at ap (by omega) _).mono ?_
            rintro v wv ⟨rfl, hb⟩
            replace hB := below_on hB hb
            replace K0 := hid (var_on hb K0.out m0)
            replace K2 := hid (var_on hb K2.out m2)
            replace K3 := hid (var_on hb K3.out m3)
            replace K4 := hid (var_on hb K4.out m4)
            replace K5 := hid (var_on hb K5.out m5)
            replace K6 := hid (var_on hb K6.out m6)
            replace K7 := hid (var_on hb K7.out m7)
            clear hb d0 d2 d3 d4 d5 d6 d7
            have d7 := cells_at K7.out
            go_wp2_with fail
            go_meet
            exact ⟨set11_off K0.out (by omega) _ _ _ _ _ _ _ _ _ _ _, set11_off K2.out (by omega) _ _ _ _ _ _ _ _ _ _ _, set11_off K3.out (by omega) _ _ _ _ _ _ _ _ _ _ _, set11_off K4.out (by omega) _ _ _ _ _ _ _ _ _ _ _, set11_off K5.out (by omega) _ _ _ _ _ _ _ _ _ _ _, set11_off K6.out (by omega) _ _ _ _ _ _ _ _ _ _ _, set11_at K7.out _ _ _ _ _ _ _ _ _ _ _, below_setT hB (by omega) _ _ _ _ _ _ _ _ _ _ _⟩
        case rest =>
          clear hB K0 K2 K3 K4 K5 K6 K7
          obtain ⟨k0, k2, k3, k4, k5, k6, k7, hB⟩ := hcut
          have K0 := hid k0
          have K2 := hid k2
          have K3 := hid k3
          have K4 := hid k4
          have K5 := hid k5
          have K6 := hid k6
          have K7 := hid k7
          clear k0 k2 k3 k4 k5 k6 k7
          have d2 := cells_at K2.out
          have d3 := cells_at K3.out
          have d4 := cells_at K4.out
          have d5 := cells_at K5.out
          have d6 := cells_at K6.out
          have d7 := cells_at K7.out
          cases p <;> cases q <;> cases r
          · go_wp2_with fail
            go_ret
            exact ⟨rfl, hB⟩
          · go_wp2_with fail
            go_ret
            exact ⟨rfl, hB⟩
          · go_wp2_with fail
            go_ret
            exact ⟨rfl, hB⟩
          · go_wp2_with fail
            go_ret
            exact ⟨rfl, hB⟩
          · go_wp2_with fail
            go_ret
            exact ⟨rfl, hB⟩
          · go_wp2_with fail
            go_ret
            exact ⟨rfl, hB⟩
          · go_wp2_with fail
            go_ret
            exact ⟨rfl, hB⟩
          · have cm := chain_mask E1.out E2.out E3.out
            rw [cm] at oxyz
            clear cm
            go_wp2_with fail
            go_ret
            exact ⟨by simp, hB⟩

theorem fieldsChain_own : ownKnob Try.prog.godebug = none := by kernel_rfl
theorem fieldsChain_laidOut : laidOutB Try.prog = true := by kernel_rfl
set_option maxRecDepth 100000 in
theorem fieldsChain_lifted (os : Os) (started : os.Started) (H : Type) (enc : TypeId × Value → H) :
    ReturnsInHanded {} Try.checked os 6 .any (Rows.fieldsChainSpec.pre6 enc Try.prog Try.f6 Rows.fieldsChainRow.domain false) (Rows.fieldsChainSpec.post enc Try.prog Try.f6 false true false false) := by
  refine returnsInHanded_of_change (C := Try.checked) fieldsChain_own started (by kernel_rfl) Try.func6
    (ChangeSpec.witness6 (enc := enc) (C := Try.checked) false ⟨#[], #[.agg #[.int .i64 0, .int .i64 0, .int .i64 0, .int .i64 0, .string ByteArray.empty, .int .i64 0, .string ByteArray.empty, .int .i64 0, .string ByteArray.empty, .int .i64 0, .string ByteArray.empty], .agg #[.int .i64 0, .int .i64 0, .int .i64 0, .int .i64 0, .string ByteArray.empty, .int .i64 0, .string ByteArray.empty, .int .i64 0, .string ByteArray.empty, .int .i64 0, .string ByteArray.empty], .agg #[.int .i64 0, .int .i64 0, .int .i64 0, .int .i64 0, .string ByteArray.empty, .int .i64 0, .string ByteArray.empty, .int .i64 0, .string ByteArray.empty, .int .i64 0, .string ByteArray.empty]], []⟩ 8 (by kernel_rfl) (by kernel_rfl) (by kernel_rfl) (by kernel_rfl)) ?_
  intro W base args ds gs before hval0 hW hcnd _
  have hval : ∀ (j : Nat) t v, Try.f6.params[j]? = some t → args[j]? = some v → Value.okWide Try.prog W .any base t v := hval0
  have hW' := hW
  obtain ⟨p, q, hA0, hV, rfl, hfz, hnd⟩ := hW
  have hA : DataW.TrodAll enc Try.prog W 0 (fun _ => true) true Try.f6.params.toList args.toList ds p := hA0
  rw [Try.params6] at hA hval
  obtain ⟨v0, vs0, d0, ds0, p0, q0, hargs, rfl, rfl, h0, r0⟩ := trodAll_cons hA
  obtain ⟨v1, vs1, d1, ds1, p1, q1, rfl, rfl, rfl, h1, r1⟩ := trodAll_cons r0
  obtain ⟨v2, vs2, d2, ds2, p2, q2, rfl, rfl, rfl, h2, r2⟩ := trodAll_cons r1
  obtain ⟨rfl, rfl, rfl⟩ := trodAll_nil r2
  obtain rfl : args = #[v0, v1, v2] := by cases args; simp_all
  obtain ⟨rfl, rfl⟩ := trodVars_none hV
  have k0 := h0
  have lt0 : ∀ x ∈ p0, x.block < W.heap.size := by obtain ⟨m, hm⟩ := k0; exact DataW.trod_lt m _ _ _ hm
  have k1 := h1
  have lt1 : ∀ x ∈ p1, x.block < W.heap.size := by obtain ⟨m, hm⟩ := k1; exact DataW.trod_lt m _ _ _ hm
  have k2 := h2
  have lt2 : ∀ x ∈ p2, x.block < W.heap.size := by obtain ⟨m, hm⟩ := k2; exact DataW.trod_lt m _ _ _ hm
  obtain ⟨a0, rfl, w0⟩ := open_th (hval 0 28 v0 rfl rfl) h0
  obtain ⟨a1, rfl, w1⟩ := open_th (hval 1 28 v1 rfl rfl) h1
  obtain ⟨a2, rfl, w2⟩ := open_th (hval 2 28 v2 rfl rfl) h2
  clear hA0 hval0
  refine (fieldsChain_walk W a0 w0 a1 w1 a2 w2).mono fun e W' ⟨he, bel⟩ => ?_
  subst he
  exact ⟨_, rfl, _, _, _, [], _, [], hW', trodAll_mk1 (shut_bool Try.underlying4 _), (trodAll_cons_mk (Below.trod fieldsChain_laidOut (by kernel_rfl) (of_decide_eq_true (by kernel_rfl)) k0 bel lt0) (trodAll_cons_mk (Below.trod fieldsChain_laidOut (by kernel_rfl) (of_decide_eq_true (by kernel_rfl)) k1 bel lt1) (trodAll_cons_mk (Below.trod fieldsChain_laidOut (by kernel_rfl) (of_decide_eq_true (by kernel_rfl)) k2 bel lt2) trodAll_mk0))), rfl, bel.frame _, fun h => by cases h⟩

theorem fieldsChain_over : Rows.fieldsChainRow.holds Try.pinned (OpenSpec.ofChange Rows.fieldsChainSpec) :=
  OpenClaim.holds_of_wide 6 Try.f6 rfl rfl rfl rfl rfl rfl rfl ⟨rfl, rfl, rfl, rfl, rfl⟩ rfl rfl rfl rfl rfl (by kernel_rfl) Try.func6 (by kernel_rfl)
    (of_decide_eq_true (by kernel_rfl)) (by unfold Func.isWrapper; first | (rw [if_pos (by decide +kernel)]; kernel_rfl) | (rw [if_neg (by decide +kernel)]; exact ⟨rfl, rfl⟩))
    (fun os started H enc _ => fieldsChain_lifted os started H enc)

theorem fieldsChain_holds : Rows.FieldsChainSaid := fieldsChain_over
#print axioms fieldsChain_holds
end Go.Proofs.Ytaokhgbkghbpmaa
