/- Contract of one of the reference: an event at the beginning of bytes, how many they are, or what is wrong (then the event is whatever). Contract of Read of the reference. -/
import Derived.Test.YtkklchobiiajgaaEvJ
import Derived.Test.YtkklchobiiajgaaEvF
namespace Go.Proofs.Ytkklchobiiajgaa
section
open Go.RowKit
set_option linter.unusedVariables false
theorem results_one {tmps : Array Value} {W : World} {g : Nat} {c : Ev} {z e : Int} (h2 : tmps.getD 2 undef = .pointer (some ⟨g, 0, none⟩)) (h3 : tmps.getD 3 undef = .int .i64 z) (h4 : tmps.getD 4 undef = .int .i64 e) (h : W.heap[g]? = some c.o) :
    (results Try.f51 tmps).run Try.prog W = .ok (.tuple #[c.v, .int .i64 z, .int .i64 e]) W := by
  have hl := load_var_ev h
  have h2' : tmps[2]?.getD undef = .pointer (some ⟨g, 0, none⟩) := by simpa using h2
  have h3' : tmps[3]?.getD undef = .int .i64 z := by simpa using h3
  have h4' : tmps[4]?.getD undef = .int .i64 e := by simpa using h4
  simp [results, Try.results51, h2', h3', h4', asAddr, hl]
/-- what one answers -/
def OnePost (w : World) (x : Ev) (z e : Nat) : Ending → World → Prop := fun a w' => ∃ (Y : Ev) (y : Nat), a = .returned (.tuple #[Y.v, .int .i64 y, .int .i64 e]) ∧ (e = 0 → Y = x ∧ y = z) ∧ Below w.heap.size w w'
theorem refread_cut {s : ByteArray} {z : Nat} {d : Dl} {n e : Nat} (h : Hid (read (s.data.toList.drop z) = (d, n, e))) (hs : s.size ≤ 1000000) (w : World) :
    Calls Try.prog 69 #[.string (s.extract z s.size)] w fun x w' => x = .returned (.tuple #[d.v, .int .i64 n, .int .i64 e]) ∧ Below w.heap.size w w' :=
  refread_at (by show read _ = _; rw [cut_data]; exact h.out) (by rw [ByteArray.size_extract]; omega) w
theorem refget_cut {s : ByteArray} {z n k e : Nat} (h : Hid (get (s.data.toList.drop z) = (n, k, e))) (hs : s.size ≤ 1000000) (w : World) :
    Calls Try.prog 50 #[.string (s.extract z s.size)] w fun x w' => x = .returned (.tuple #[.int .u64 n, .int .i64 k, .int .i64 e]) ∧ w' = w :=
  ref_get_eq (by show get _ = _; rw [cut_data]; exact h.out) (by rw [ByteArray.size_extract]; unfold maxLen; omega) w
set_option maxRecDepth 100000 in
set_option maxHeartbeats 4000000 in
theorem one_A {s : ByteArray} {x : Ev} {z e m j : Nat} (HG : Hid (get s.data.toList = (m, j, e))) (he : ¬ e = 0) (hs : s.size ≤ 1000000) (w : World) : Calls Try.prog 51 #[.string s] w (OnePost w x z e) := by
  obtain ⟨W, hW⟩ : ∃ W, W = w.alloc zeroEO := ⟨_, rfl⟩
  have hE : Below w.heap.size w W := by rw [hW]; exact below1 _ _
  have K := hid (show W.heap[w.heap.size]? = some zE.o by rw [hW]; exact new_zeroE _)
  obtain ⟨Q, hQ0⟩ : ∃ Q, bodyPost Try.prog Try.f51 (OnePost w x z e) = Q := ⟨_, rfl⟩
  have HQ := hid hQ0
  clear hQ0
  have q1 : ((e : Int) != 0) = true := by simpa using he
  have HE := hid he
  clear he
  go_enter Try.func51, Try.ntmps51
  rw [HQ.out]
  go_upto_region 1 with fail
  rw [← hW]
  clear hW
  go_wp2_with fail
  refine (ref_get_eq HG (by unfold maxLen; omega) _).mono ?_
  rintro u w1 ⟨rfl, h1⟩
  rw [h1]
  clear h1 w1
  go_wp2_with (first
    | ((with_reducible refine wpList_build_0 ?_ rfl ?_); · rfl)
    | ((with_reducible refine wpList_store_ev (c := zE) rfl (.tmp 2) (.tmp 25) rfl rfl rfl K.out ?_); intro W9 h9 b9 s9))
  rw [← HQ.out]
  exact bodyPost_ret (v := .tuple #[(zE : Ev).v, .int .i64 (0 : Nat), .int .i64 e]) (results_one rfl rfl rfl h9) rfl ⟨_, _, rfl, fun h => absurd h HE.out, b9.below hE (Nat.le_refl _)⟩
set_option maxRecDepth 100000 in
set_option maxHeartbeats 4000000 in
theorem one_E {s : ByteArray} {x : Ev} {z e m j : Nat} (HG : Hid (get s.data.toList = (m, j, 0))) (h1 : ¬ m = 1) (h2 : ¬ m = 2) (h3 : ¬ m = 3) (he : e = 11) (hs : s.size ≤ 1000000) (w : World) : Calls Try.prog 51 #[.string s] w (OnePost w x z e) := by
  obtain ⟨W, hW⟩ : ∃ W, W = w.alloc zeroEO := ⟨_, rfl⟩
  have hE : Below w.heap.size w W := by rw [hW]; exact below1 _ _
  have K := hid (show W.heap[w.heap.size]? = some zE.o by rw [hW]; exact new_zeroE _)
  obtain ⟨Q, hQ0⟩ : ∃ Q, bodyPost Try.prog Try.f51 (OnePost w x z e) = Q := ⟨_, rfl⟩
  have HQ := hid hQ0
  clear hQ0
  subst he
  have q1 : ((m : Int) == 1) = false := by simp; omega
  have q2 : ((m : Int) == 2) = false := by simp; omega
  have q3 : ((m : Int) == 3) = false := by simp; omega
  clear h1 h2 h3
  go_enter Try.func51, Try.ntmps51
  rw [HQ.out]
  go_upto_region 1 with fail
  rw [← hW]
  clear hW
  go_wp2_with fail
  refine (ref_get_eq HG (by unfold maxLen; omega) _).mono ?_
  rintro u w1 ⟨rfl, h1⟩
  rw [h1]
  clear h1 w1
  go_wp2_with (first
    | ((with_reducible refine wpList_build_0 ?_ rfl ?_); · rfl)
    | ((with_reducible refine wpList_store_ev (c := zE) rfl (.tmp 2) (.tmp 88) rfl rfl rfl K.out ?_); intro W9 h9 b9 s9))
  rw [← HQ.out]
  exact bodyPost_ret (v := .tuple #[(zE : Ev).v, .int .i64 (0 : Nat), .int .i64 (11 : Nat)]) (results_one rfl rfl rfl h9) rfl ⟨_, _, rfl, fun h => absurd h (by decide), b9.below hE (Nat.le_refl _)⟩
set_option maxRecDepth 100000 in
set_option maxHeartbeats 4000000 in
theorem one_B {s : ByteArray} {x : Ev} {z e j : Nat} (HG : Hid (get s.data.toList = (1, j, 0))) (h : Hid (restE 1 (s.data.toList.drop j) = (x, z, e))) (hs : s.size ≤ 1000000) (w : World) : Calls Try.prog 51 #[.string s] w (OnePost w x (j + z) e) := by
  obtain ⟨W, hW⟩ : ∃ W, W = w.alloc zeroEO := ⟨_, rfl⟩
  have hE : Below w.heap.size w W := by rw [hW]; exact below1 _ _
  have K := hid (show W.heap[w.heap.size]? = some zE.o by rw [hW]; exact new_zeroE _)
  obtain ⟨Q, hQ0⟩ : ∃ Q, bodyPost Try.prog Try.f51 (OnePost w x (j + z) e) = Q := ⟨_, rfl⟩
  have HQ := hid hQ0
  clear hQ0
  rcases hr : readT (s.data.toList.drop j) with ⟨t, n, f⟩
  have e1 := h.out
  rw [restE_1 hr] at e1
  simp only [Prod.mk.injEq] at e1
  obtain ⟨rfl, rfl, rfl⟩ := e1
  have HR := hid hr
  obtain ⟨b1, b2, b3, b4, b5⟩ := get_ok HG.out
  have b2 : j ≤ s.size := b2
  have c1 := (restE_ok (k := 1) (by decide) (restE_1 hr)).1
  rw [List.length_drop] at c1
  have c1 : n ≤ s.size - j := c1
  have RD := fun w => refreadcut_at HR hs w
  have jz1 : (0 : Int) ≤ (j : Int) := by omega
  have jz2 : (j : Int) ≤ (s.size : Int) := by omega
  clear hr h b1 b4 b5
  go_enter Try.func51, Try.ntmps51
  rw [HQ.out]
  go_upto_region 1 with fail
  rw [← hW]
  clear hW
  go_wp2_with fail
  refine (ref_get_eq HG (by unfold maxLen; omega) _).mono ?_
  rintro u w1 ⟨rfl, h1⟩
  rw [h1]
  clear h1 w1
  go_wp2_with fail
  refine (RD _).mono ?_
  rintro u w2 ⟨rfl, hb2⟩
  have K2 := hid (var_on hb2 K.out (at_lt K.out))
  have hB2 := below_on hE hb2
  have lw := hB2.size
  clear hb2 hE K RD
  obtain ⟨W3, hW3⟩ : ∃ W3, W3 = w2.alloc t.o := ⟨_, rfl⟩
  have hB3 : Below w.heap.size w W3 := by rw [hW3]; exact hB2.alloc lw _
  have K3 := hid (show W3.heap[w.heap.size]? = some zE.o by rw [hW3]; exact old_at K2.out _)
  have T3 := hid (show W3.heap[w2.heap.size]? = some t.o by rw [hW3]; exact new_at _ _ _ rfl)
  go_upto_region 7 with fail
  rw [← hW3]
  clear hW3 K2 hB2
  have c3 := cells_at T3.out
  go_wp2_with (first
    | ((with_reducible refine wpList_build_1 (t := t) ?_ (.const (.int .i64 1)) (.tmp 39) (.tmp 40) rfl rfl rfl rfl ?_); · rfl)
    | ((with_reducible refine wpList_store_ev (c := ⟨1, t.id, t, zD⟩) rfl (.tmp 2) (.tmp 41) rfl rfl rfl K3.out ?_); intro W9 h9 b9 s9))
  rw [← HQ.out]
  exact bodyPost_ret (v := .tuple #[(⟨1, t.id, t, zD⟩ : Ev).v, .int .i64 ((j + n : Nat) : Int), .int .i64 f]) (results_one rfl rfl rfl h9) rfl ⟨_, _, rfl, fun _ => ⟨rfl, rfl⟩, b9.below hB3 (Nat.le_refl _)⟩
set_option maxRecDepth 100000 in
set_option maxHeartbeats 4000000 in
theorem one_C {s : ByteArray} {x : Ev} {z e j : Nat} (HG : Hid (get s.data.toList = (2, j, 0))) (h : Hid (restE 2 (s.data.toList.drop j) = (x, z, e))) (hs : s.size ≤ 1000000) (w : World) : Calls Try.prog 51 #[.string s] w (OnePost w x (j + z) e) := by
  obtain ⟨W, hW⟩ : ∃ W, W = w.alloc zeroEO := ⟨_, rfl⟩
  have hE : Below w.heap.size w W := by rw [hW]; exact below1 _ _
  have K := hid (show W.heap[w.heap.size]? = some zE.o by rw [hW]; exact new_zeroE _)
  obtain ⟨Q, hQ0⟩ : ∃ Q, bodyPost Try.prog Try.f51 (OnePost w x (j + z) e) = Q := ⟨_, rfl⟩
  have HQ := hid hQ0
  clear hQ0
  rcases hr : read (s.data.toList.drop j) with ⟨t, n, f⟩
  have e1 := h.out
  rw [restE_2 hr] at e1
  simp only [Prod.mk.injEq] at e1
  obtain ⟨rfl, rfl, rfl⟩ := e1
  have HR := hid hr
  obtain ⟨b1, b2, b3, b4, b5⟩ := get_ok HG.out
  have b2 : j ≤ s.size := b2
  have c1 := (restE_ok (k := 2) (by decide) (restE_2 hr)).1
  rw [List.length_drop] at c1
  have c1 : n ≤ s.size - j := c1
  have RD := fun w => refread_cut HR hs w
  have jz1 : (0 : Int) ≤ (j : Int) := by omega
  have jz2 : (j : Int) ≤ (s.size : Int) := by omega
  clear hr h b1 b4 b5
  go_enter Try.func51, Try.ntmps51
  rw [HQ.out]
  go_upto_region 1 with fail
  rw [← hW]
  clear hW
  go_wp2_with fail
  refine (ref_get_eq HG (by unfold maxLen; omega) _).mono ?_
  rintro u w1 ⟨rfl, h1⟩
  rw [h1]
  clear h1 w1
  go_wp2_with fail
  refine (RD _).mono ?_
  rintro u w2 ⟨rfl, hb2⟩
  have K2 := hid (var_on hb2 K.out (at_lt K.out))
  have hB2 := below_on hE hb2
  have lw := hB2.size
  clear hb2 hE K RD
  obtain ⟨W3, hW3⟩ : ∃ W3, W3 = w2.alloc t.o := ⟨_, rfl⟩
  have hB3 : Below w.heap.size w W3 := by rw [hW3]; exact hB2.alloc lw _
  have K3 := hid (show W3.heap[w.heap.size]? = some zE.o by rw [hW3]; exact old_at K2.out _)
  have T3 := hid (show W3.heap[w2.heap.size]? = some t.o by rw [hW3]; exact new_at _ _ _ rfl)
  go_upto_region 10 with fail
  rw [← hW3]
  clear hW3 K2 hB2
  have c3 := cells_at T3.out
  go_wp2_with (first
    | ((with_reducible refine wpList_build_2 (t := t) ?_ (.const (.int .i64 2)) (.tmp 57) (.tmp 58) rfl rfl rfl rfl ?_); · rfl)
    | ((with_reducible refine wpList_store_ev (c := ⟨2, t.id, zT, t⟩) rfl (.tmp 2) (.tmp 59) rfl rfl rfl K3.out ?_); intro W9 h9 b9 s9))
  rw [← HQ.out]
  exact bodyPost_ret (v := .tuple #[(⟨2, t.id, zT, t⟩ : Ev).v, .int .i64 ((j + n : Nat) : Int), .int .i64 f]) (results_one rfl rfl rfl h9) rfl ⟨_, _, rfl, fun _ => ⟨rfl, rfl⟩, b9.below hB3 (Nat.le_refl _)⟩
set_option maxRecDepth 100000 in
set_option maxHeartbeats 4000000 in
theorem one_D {s : ByteArray} {x : Ev} {z e j : Nat} (HG : Hid (get s.data.toList = (3, j, 0))) (h : Hid (restE 3 (s.data.toList.drop j) = (x, z, e))) (hs : s.size ≤ 1000000) (w : World) : Calls Try.prog 51 #[.string s] w (OnePost w x (j + z) e) := by
  obtain ⟨W, hW⟩ : ∃ W, W = w.alloc zeroEO := ⟨_, rfl⟩
  have hE : Below w.heap.size w W := by rw [hW]; exact below1 _ _
  have K := hid (show W.heap[w.heap.size]? = some zE.o by rw [hW]; exact new_zeroE _)
  obtain ⟨Q, hQ0⟩ : ∃ Q, bodyPost Try.prog Try.f51 (OnePost w x (j + z) e) = Q := ⟨_, rfl⟩
  have HQ := hid hQ0
  clear hQ0
  rcases hr : get (s.data.toList.drop j) with ⟨m, n, f⟩
  have HR := hid hr
  obtain ⟨b1, b2, b3, b4, b5⟩ := get_ok HG.out
  have b2 : j ≤ s.size := b2
  obtain ⟨d1, d2, d3, d4, d5⟩ := get_ok hr
  rw [List.length_drop] at d2
  have d2 : n ≤ s.size - j := d2
  have RD := fun w => refget_cut HR hs w
  have jz1 : (0 : Int) ≤ (j : Int) := by omega
  have jz2 : (j : Int) ≤ (s.size : Int) := by omega
  have e1 := h.out
  clear hr h b1 b4 b5
  by_cases hf : f = 0
  · subst hf
    by_cases hm : 1000000 < m
    · rw [restE_3 (numE_2 HR.out hm)] at e1
      simp only [Prod.mk.injEq] at e1
      obtain ⟨rfl, rfl, rfl⟩ := e1
      have hm' : (1000000 : Int) < (m : Int) := by omega
      have hmin : min (m : Int) 1000000 = 1000000 := by omega
      go_enter Try.func51, Try.ntmps51
      rw [HQ.out]
      go_upto_region 1 with fail
      rw [← hW]
      clear hW
      go_wp2_with fail
      refine (ref_get_eq HG (by unfold maxLen; omega) _).mono ?_
      rintro u w1 ⟨rfl, h1⟩
      rw [h1]
      clear h1 w1
      go_wp2_with fail
      refine (RD _).mono ?_
      rintro u w2 ⟨rfl, h2⟩
      rw [h2]
      clear h2 w2 RD
      go_wp2_with (first
        | ((with_reducible refine wpList_build_3 ?_ (.const (.int .i64 3)) (.tmp 82) rfl rfl rfl ?_); · rfl)
        | ((with_reducible refine wpList_store_ev (c := ⟨3, 1000000, zT, zD⟩) rfl (.tmp 2) (.tmp 83) rfl rfl rfl K.out ?_); intro W9 h9 b9 s9))
      rw [← HQ.out]
      exact bodyPost_ret (v := .tuple #[(⟨3, 1000000, zT, zD⟩ : Ev).v, .int .i64 ((j + n : Nat) : Int), .int .i64 (11 : Nat)]) (results_one rfl rfl rfl h9) rfl ⟨_, _, rfl, fun h => absurd h (by decide), b9.below hE (Nat.le_refl _)⟩
    · rw [restE_3 (numE_3 HR.out (by omega))] at e1
      simp only [Prod.mk.injEq] at e1
      obtain ⟨rfl, rfl, rfl⟩ := e1
      have hm' : (m : Int) ≤ 1000000 := by omega
      have hmin : min (m : Int) 1000000 = (m : Int) := by omega
      have hw : IntKind.i64.wrap (m : Int) = (m : Int) := by rw [IntKind.wrap_i64]; omega
      go_enter Try.func51, Try.ntmps51
      rw [HQ.out]
      go_upto_region 1 with fail
      rw [← hW]
      clear hW
      go_wp2_with fail
      refine (ref_get_eq HG (by unfold maxLen; omega) _).mono ?_
      rintro u w1 ⟨rfl, h1⟩
      rw [h1]
      clear h1 w1
      go_wp2_with fail
      refine (RD _).mono ?_
      rintro u w2 ⟨rfl, h2⟩
      rw [h2]
      clear h2 w2 RD
      go_wp2_with (first
        | ((with_reducible refine wpList_build_3 ?_ (.const (.int .i64 3)) (.tmp 82) rfl rfl rfl ?_); · rfl)
        | ((with_reducible refine wpList_store_ev (c := ⟨3, m, zT, zD⟩) rfl (.tmp 2) (.tmp 83) rfl rfl rfl K.out ?_); intro W9 h9 b9 s9))
      rw [← HQ.out]
      exact bodyPost_ret (v := .tuple #[(⟨3, m, zT, zD⟩ : Ev).v, .int .i64 ((j + n : Nat) : Int), .int .i64 (0 : Nat)]) (results_one rfl rfl rfl h9) rfl ⟨_, _, rfl, fun _ => ⟨rfl, rfl⟩, b9.below hE (Nat.le_refl _)⟩
  · rw [restE_3 (numE_1 HR.out hf)] at e1
    simp only [Prod.mk.injEq] at e1
    obtain ⟨rfl, rfl, rfl⟩ := e1
    have hq : ((f : Int) == 0) = false := by simpa using hf
    have HF := hid hf
    obtain ⟨mi, hmi⟩ : ∃ mi : Nat, min (m : Int) 1000000 = (mi : Int) ∧ mi ≤ 1000000 := ⟨min m 1000000, by omega, by omega⟩
    obtain ⟨hmin, hmi2⟩ := hmi
    have hw : IntKind.i64.wrap (mi : Int) = (mi : Int) := by rw [IntKind.wrap_i64]; omega
    clear hf
    go_enter Try.func51, Try.ntmps51
    rw [HQ.out]
    go_upto_region 1 with fail
    rw [← hW]
    clear hW
    go_wp2_with fail
    refine (ref_get_eq HG (by unfold maxLen; omega) _).mono ?_
    rintro u w1 ⟨rfl, h1⟩
    rw [h1]
    clear h1 w1
    go_wp2_with fail
    refine (RD _).mono ?_
    rintro u w2 ⟨rfl, h2⟩
    rw [h2]
    clear h2 w2 RD
    go_wp2_with (first
      | ((with_reducible refine wpList_build_3 ?_ (.const (.int .i64 3)) (.tmp 82) rfl rfl rfl ?_); · rfl)
      | ((with_reducible refine wpList_store_ev (c := ⟨3, mi, zT, zD⟩) rfl (.tmp 2) (.tmp 83) rfl rfl rfl K.out ?_); intro W9 h9 b9 s9))
    rw [← HQ.out]
    exact bodyPost_ret (v := .tuple #[(⟨3, mi, zT, zD⟩ : Ev).v, .int .i64 ((j + n : Nat) : Int), .int .i64 f]) (results_one rfl rfl rfl h9) rfl ⟨_, _, rfl, fun h => absurd h HF.out, b9.below hE (Nat.le_refl _)⟩
theorem OnePost.eq {w : World} {x y : Ev} {z z' e : Nat} {a : Ending} {w' : World} (h : OnePost w x z e a w') (hx : e = 0 → x = y ∧ z = z') : OnePost w y z' e a w' := by
  obtain ⟨Y, k, h1, h2, h3⟩ := h
  exact ⟨Y, k, h1, fun he => ⟨(h2 he).1.trans (hx he).1, (h2 he).2.trans (hx he).2⟩, h3⟩
theorem ref_one {s : ByteArray} {x : Ev} {z e : Nat} (h : Hid (evR s.data.toList = (x, z, e))) (hs : s.size ≤ 1000000) (w : World) : Calls Try.prog 51 #[.string s] w (OnePost w x z e) := by
  rcases hg : get s.data.toList with ⟨m, j, f⟩
  have e1 := h.out
  by_cases hf : f = 0
  · subst hf
    by_cases hm : 3 < m
    · rw [evR_1 (numE_2 hg hm) (by decide)] at e1
      simp only [Prod.mk.injEq] at e1
      obtain ⟨rfl, rfl, rfl⟩ := e1
      exact one_E hg (by omega) (by omega) (by omega) rfl hs w
    · have hn := numE_3 (T := 3) (B := 11) hg (by omega)
      rcases hr : restE m (s.data.toList.drop j) with ⟨y, n, g⟩
      have hc : (g = 0 ∧ x = y ∧ z = j + n ∧ e = 0) ∨ (¬ g = 0 ∧ x = zE ∧ z = 0 ∧ e = g) := by
        by_cases hg0 : g = 0
        · subst hg0
          rw [evR_3 hn hr] at e1
          simp only [Prod.mk.injEq] at e1
          exact .inl ⟨rfl, e1.1.symm, e1.2.1.symm, e1.2.2.symm⟩
        · rw [evR_2 hn hr hg0] at e1
          simp only [Prod.mk.injEq] at e1
          exact .inr ⟨hg0, e1.1.symm, e1.2.1.symm, e1.2.2.symm⟩
      have heg : e = g := by rcases hc with ⟨a, _, _, b⟩ | ⟨_, _, _, b⟩ <;> omega
      subst heg
      have hfin : e = 0 → y = x ∧ j + n = z := fun h0 => by
        rcases hc with ⟨_, a, b, _⟩ | ⟨a, _, _, _⟩
        · exact ⟨a.symm, b.symm⟩
        · exact absurd h0 a
      obtain rfl | rfl | rfl | rfl : m = 0 ∨ m = 1 ∨ m = 2 ∨ m = 3 := by omega
      · have h0 := restE_4 (k := 0) (l := s.data.toList.drop j) (by decide) (by decide) (by decide)
        rw [hr] at h0
        simp only [Prod.mk.injEq] at h0
        exact one_E hg (by decide) (by decide) (by decide) h0.2.2 hs w
      · exact (one_B hg hr hs w).mono fun a w' hp => hp.eq hfin
      · exact (one_C hg hr hs w).mono fun a w' hp => hp.eq hfin
      · exact (one_D hg hr hs w).mono fun a w' hp => hp.eq hfin
  · rw [evR_1 (numE_1 hg hf) hf] at e1
    simp only [Prod.mk.injEq] at e1
    obtain ⟨rfl, rfl, rfl⟩ := e1
    exact one_A hg hf hs w
end
section
open Go.RowKit
set_option linter.unusedVariables false
theorem one_cut {s : ByteArray} {zN : Nat} {x : Ev} {z e : Nat} (h : Hid (evR (s.data.toList.drop zN) = (x, z, e))) (hs : s.size ≤ 1000000) (w : World) :
    Calls Try.prog 51 #[.string (s.extract zN s.size)] w (OnePost w x z e) :=
  ref_one (by show evR _ = _; rw [cut_data]; exact h.out) (by rw [ByteArray.size_extract]; omega) w
set_option maxRecDepth 100000 in
set_option maxHeartbeats 8000000 in
theorem refev_read {s : ByteArray} {L : List Ev} {z e : Nat} (h : Hid (readE s.data.toList = (L, z, e))) (hs : s.size ≤ 1000000) (w : World) :
    Calls Try.prog 24 #[.string s] w (EvsOf w L z e) := by
  obtain ⟨i0, hi, hz0, hz1, hz2⟩ := info_parts3 Try.infoEv
  rcases hg : get s.data.toList with ⟨n, z0, x⟩
  obtain ⟨a1, a2, a3, a4, a5⟩ := get_ok hg
  have a2 : z0 ≤ s.size := a2
  have HG := hid hg
  have H := hid h.out
  clear h a5
  by_cases hx : x = 0
  · subst hx
    by_cases hn : 400 < n
    · have e1 := H.out
      rw [readE_1 (numE_2 HG.out hn) (by decide)] at e1
      simp only [Prod.mk.injEq] at e1
      obtain ⟨rfl, rfl, rfl⟩ := e1
      have hn' : (400 : Int) < (n : Int) := by omega
      clear hn
      go_enter Try.func24, Try.ntmps24
      go_wp2_with fail
      refine (ref_get_eq HG (by unfold maxLen; omega) _).mono ?_
      rintro y w1 ⟨rfl, h1⟩
      rw [h1]
      clear h1 w1
      go_wp2_with fail
      exact bodyPost_ret (v := .tuple #[.slice none 0 0, .int .i64 0, .int .i64 13]) (by simp [results, Try.results24, go_sem]) rfl ⟨_, rfl, World.ownsRow_nil _ _ _ _, Below.refl _ _⟩
    · have hn' : (n : Int) ≤ 400 := by omega
      have hn4 : n ≤ 400 := by omega
      have HN := hid (numE_3 (T := 400) (B := 13) HG.out hn4)
      have hw : IntKind.i64.wrap (n : Int) = (n : Int) := by rw [IntKind.wrap_i64]; omega
      clear hn a3 a4
      go_enter Try.func24, Try.ntmps24
      go_wp2_with fail
      refine (ref_get_eq HG (by unfold maxLen; omega) _).mono ?_
      rintro y w1 ⟨rfl, h1⟩
      rw [h1]
      clear h1 w1
      go_wp2_with fail
      go_loopw [8, 6, 9] (fun l sz c wr => ∃ (k zN : Nat) (M : List Ev), k ≤ n ∧ c = .int .i64 k ∧ sz = .int .i64 zN ∧ Hid (esS s.data.toList z0 k = (M, zN, 0)) ∧ M.length = k ∧ wr.ownsRow w.heap.size 47 25 l k (flatE M) ∧ zN ≤ s.size ∧ Below w.heap.size w wr) (fun _ _ c _ => n - (intOf c).toNat)
      case atStart => exact ⟨0, z0, [], by omega, rfl, rfl, (show Hid _ from rfl), rfl, World.ownsRow_nil _ _ _ _, a2, Below.refl _ _⟩
      case round =>
        obtain ⟨k, zN, M, hk, rfl, rfl, HM, hMk, ho, hz, hb⟩ := hrel
        obtain ⟨pl, cl, rfl⟩ := owns_slice ho
        by_cases hlt : k < n
        · have hlt' : (k : Int) < (n : Int) := by omega
          have hs0 := hb.size
          rcases hev : evR (s.data.toList.drop zN) with ⟨x, y, f⟩
          obtain ⟨c1, c2, c3⟩ := evR_ok hev
          rw [List.length_drop] at c1
          have c1 : y ≤ s.size - zN := c1
          have HE := hid hev
          have jz1 : (0 : Int) ≤ (zN : Int) := by omega
          have jz2 : (zN : Int) ≤ (s.size : Int) := by omega
          clear hev c2 c3
          have OC := fun w => one_cut HE hs w
          go_wp2_with fail
          refine (OC _).mono ?_
          rintro u w2 ⟨Y, y', rfl, hY, hb2⟩
          have hB2 := below_on hb hb2
          have ho2 := owns_on ho hb2
          have hs2 := hB2.size
          clear OC hb2 ho hb
          by_cases hf : f = 0
          · subst hf
            obtain ⟨rfl, rfl⟩ := hY rfl
            have hM' := hid (esS_next HM.out HE.out)
            have hq : ((0 : Int) != 0) = false := rfl
            clear hY
            go_upto_region 11 with ((with_reducible refine wpList_store_ev (c := Y) rfl (.tmp 10) (.tmp 35) rfl rfl rfl (new_zeroE _) ?_); intro W3 h3 b3 s3)
            have hB3r := b3.below (below1 w2 _) (Nat.le_refl _)
            have hB3 := below_on hB2 hB3r
            have ho3 := owns_on ho2 hB3r
            have K3 := hid h3
            have hs3 := hB3.size
            clear b3 s3 h3 hB3r ho2 hB2
            go_wp2_with (first
              | ((with_reducible refine wpList_load_ev rfl (.tmp 10) rfl rfl K3.out ?_))
              | (at_builtin; refine wpList_append_lies _ rfl _ _ 23 rfl w.heap.size 47 i0 zE.v 25 264 Try.underlying23 hi hz0 hz1 hz2 rfl (by decide) _ _ _ rfl (ho3.alloc _) ⟨W3.heap.size, 0, none⟩ 1 1 Y.cs rfl rfl (World.news_of_block (heap_alloc_new _ _)) (evs_cell Y) (by decide) (by unfold maxLen; omega) (by omega) (by simp; omega) (W3.heap.size + 1) (by simp) ?_; intro g5 cap5 W5 hown5 hgrow5 hat5 hg5))
            go_roundw
            case rel =>
              refine ⟨k + 1, zN + y', M ++ [Y], by omega, by go_num, by go_num, hM', by simp [hMk], ?_, by omega, ?_⟩
              · rw [flatE_append, flatE_one]; exact hown5
              · exact (hB3.alloc hs3 _).grown hgrow5 (by simp; omega) (fun k hk => (ho3.lt k hk).1)
            case measure => simp [intOf]; omega
          · have hbad := readE_bad HN.out hlt HM.out HE.out hf
            have hfin := H.out
            rw [hbad] at hfin
            simp only [Prod.mk.injEq] at hfin
            obtain ⟨rfl, rfl, rfl⟩ := hfin
            have q1 : ((f : Int) != 0) = true := by simpa using hf
            clear hf hbad hY
            go_upto_region 11 with ((with_reducible refine wpList_store_ev (c := Y) rfl (.tmp 10) (.tmp 35) rfl rfl rfl (new_zeroE _) ?_); intro W3 h3 b3 s3)
            have hB3 := below_on hB2 (b3.below (below1 w2 _) (Nat.le_refl _))
            clear b3 s3 h3 hB2
            go_wp2_with fail
            exact bodyPost_ret (v := .tuple #[.slice none 0 0, .int .i64 0, .int .i64 f]) (by simp [results, Try.results24, go_sem]) rfl ⟨_, rfl, World.ownsRow_nil _ _ _ _, hB3⟩
        · obtain rfl : k = n := by omega
          have hlt' : ¬ (k : Int) < (k : Int) := by omega
          have hfin := H.out
          rw [readE_2 HN.out, HM.out] at hfin
          simp only [Prod.mk.injEq] at hfin
          obtain ⟨rfl, rfl, rfl⟩ := hfin
          go_wp2_with fail
          exact bodyPost_ret (v := .tuple #[.slice pl k cl, .int .i64 zN, .int .i64 0]) (by simp [results, Try.results24, go_sem]) rfl ⟨_, rfl, by rw [hMk]; exact ho, hb⟩
  · have e1 := H.out
    rw [readE_1 (numE_1 HG.out hx) hx] at e1
    simp only [Prod.mk.injEq] at e1
    obtain ⟨rfl, rfl, rfl⟩ := e1
    have q1 : ((x : Int) != 0) = true := by simpa using hx
    clear hx a4
    go_enter Try.func24, Try.ntmps24
    go_wp2_with fail
    refine (ref_get_eq HG (by unfold maxLen; omega) _).mono ?_
    rintro y w1 ⟨rfl, h1⟩
    rw [h1]
    clear h1 w1
    go_wp2_with fail
    exact bodyPost_ret (v := .tuple #[.slice none 0 0, .int .i64 0, .int .i64 x]) (by simp [results, Try.results24, go_sem]) rfl ⟨_, rfl, World.ownsRow_nil _ _ _ _, Below.refl _ _⟩
end
end Go.Proofs.Ytkklchobiiajgaa
