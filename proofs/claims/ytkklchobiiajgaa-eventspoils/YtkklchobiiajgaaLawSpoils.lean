/- EventSpoils: an EEnter of a thing that is one is an event; with another number, another kind, a part that its kind doesn't have, or a thing that is none, it is none: Bytes tells ErrForm, Apply false with nothing; for every thing with texts of at most 40 bytes and a number above 0 (else the statement asks nothing). -/
import Derived.Test.YtkklchobiiajgaaEO
import Derived.ProofKit
import Derived.OpenShut
import Derived.ShutString
import Derived.ChangeOld
import Derived.Below
import Derived.SizedLaws
namespace Go.Proofs.Ytkklchobiiajgaa
open Go.ChangeShapes Go.WideShapes Go.ChangeAt Go.RowKit
open Go.ChangeMaps (open_string shut_string)
set_option linter.unusedVariables false

/-- the spoilt one -/
def spoilE (t : Th) : Nat → Ev
  | 0 => ⟨1, t.id - 1, t, zD⟩
  | 1 => ⟨0, t.id, t, zD⟩
  | 2 => ⟨3, t.id, t, zD⟩
  | 3 => ⟨1, t.id, t, ⟨0, 1, 0, 0, zF, zF, zF, zF⟩⟩
  | _ => ⟨1, t.id, ⟨t.id, -1, t.y, t.f0, t.f1, t.f2, t.f3⟩, zD⟩
theorem good_E {t : Th} (h : isT t = true) : isE ⟨1, t.id, t, zD⟩ = true := by
  rw [isE_1 rfl, h, Bool.true_and]
  exact eqE_self _
theorem spoil_no {t : Th} (h : isT t = true) (h0 : ¬ t.id = 0) : ∀ k, isE (spoilE t k) = false
  | 0 => by
    rw [show spoilE t 0 = ⟨1, t.id - 1, t, zD⟩ from rfl, isE_1 rfl, eqE_1 rfl]
    have : ((t.id - 1 == t.id) : Bool) = false := by simp; omega
    simp [this]
  | 1 => isE_4 (by show ¬ ((0 : Int) = 1); decide) (by show ¬ ((0 : Int) = 2); decide) (by show ¬ ((0 : Int) = 3); decide)
  | 2 => by
    rw [show spoilE t 2 = ⟨3, t.id, t, zD⟩ from rfl, isE_3 rfl, eqE_3 rfl]
    have : eqT t zT = false := by
      rw [eqT_no]
      intro e
      rw [e] at h0
      exact h0 rfl
    simp [this]
  | 3 => by
    rw [show spoilE t 3 = ⟨1, t.id, t, ⟨0, 1, 0, 0, zF, zF, zF, zF⟩⟩ from rfl, isE_1 rfl, eqE_1 rfl]
    have : eqD ⟨0, 1, 0, 0, zF, zF, zF, zF⟩ zD = false := rfl
    simp [this]
  | k + 4 => by
    rw [show spoilE t (k + 4) = ⟨1, t.id, ⟨t.id, -1, t.y, t.f0, t.f1, t.f2, t.f3⟩, zD⟩ from rfl, isE_1 rfl]
    have : isT ⟨t.id, -1, t.y, t.f0, t.f1, t.f2, t.f3⟩ = false := by
      rw [isT_eq]
      have : onB (-1) t.y = false := by simp [onB, inB]
      simp [this]
    simp [this]
theorem inD_1 : inD ⟨0, 1, 0, 0, zF, zF, zF, zF⟩ := ⟨by decide, ⟨by decide, by decide, by decide⟩, ⟨by decide, by decide, by decide⟩, ⟨by decide, by decide, by decide⟩, ⟨by decide, by decide, by decide⟩⟩
theorem spoil_in {t : Th} (h : inT t) : ∀ k, inE (spoilE t k)
  | 0 => ⟨h, inD_z⟩
  | 1 => ⟨h, inD_z⟩
  | 2 => ⟨h, inD_z⟩
  | 3 => ⟨h, inD_1⟩
  | k + 4 => ⟨h, inD_z⟩
set_option maxRecDepth 100000 in
set_option maxHeartbeats 8000000 in
theorem eventSpoils_walk (w : World) (a0 : Th) (w0 : inT a0) (a1 : Int) (w1 : (Lit.int .u8 a1).wf = true) :
    Calls Try.prog 6 #[a0.v, .int .u8 a1] w fun e w' => e = .returned (.bool true) ∧ Below w.heap.size w w' := by
  have hu := u8_bounds w1
  clear w1
  obtain ⟨W, hW⟩ : ∃ W, W = w.alloc a0.o := ⟨_, rfl⟩
  have hE : Below w.heap.size w W := by rw [hW]; exact below1 _ _
  have K := hid (show W.heap[w.heap.size]? = some a0.o by rw [hW]; exact new_at _ _ _ rfl)
  obtain ⟨f0, hf0⟩ : ∃ q, Hid (few4 a0.f = q) := ⟨_, rfl⟩
  obtain ⟨g0, hg0⟩ : ∃ q, Hid (isT a0 = q) := ⟨_, rfl⟩
  obtain ⟨z0, hz0⟩ : ∃ q, (a0.id == 0) = q := ⟨_, rfl⟩
  have CF := fun w => fewT_at hf0.out w w0
  have CI := fun w => refT_at hg0 w w0
  have W0 := hid w0
  clear w0
  go_enter Try.func6, Try.ntmps6
  go_upto_region 1 with fail
  rw [← hW]
  clear hW
  go_wp2_with fail
  refine (known_holds _).mono ?_
  rintro x v1 ⟨rfl, hb1⟩
  have hB1 := below_on hE hb1
  have K1 := hid (var_on hb1 K.out (at_lt K.out))
  clear hb1 hE K
  have c := cells_at K1.out
  go_wp2_with fail
  refine (CF _).mono ?_
  rintro x v2 ⟨rfl, hb2⟩
  have hB2 := below_on hB1 hb2
  have K2 := hid (var_on hb2 K1.out (at_lt K1.out))
  clear hb2 hB1 K1 c CF
  cases f0
  · go_wp2_with fail
    go_ret
    exact ⟨rfl, hB2⟩
  have c := cells_at K2.out
  go_wp2_with fail
  refine (CI _).mono ?_
  rintro x v3 ⟨rfl, hb3⟩
  have hB3 := below_on hB2 hb3
  have K3 := hid (var_on hb3 K2.out (at_lt K2.out))
  clear hb3 hB2 K2 c CI
  cases g0
  · go_wp2_with fail
    go_ret
    exact ⟨rfl, hB3⟩
  have c := cells_at K3.out
  cases z0
  case true =>
    go_wp2_with fail
    go_ret
    exact ⟨rfl, hB3⟩
  have h0 : ¬ a0.id = 0 := by simpa using hz0
  have HN := hid (spoil_no hg0.out h0)
  have HI := hid (spoil_in W0.out)
  have HG := hid (good_E hg0.out)
  have lw := at_lt K3.out
  clear h0
  obtain ⟨b1, b2, -⟩ := isT_small hg0.out
  go_upto_region 6 with (first
    | ((with_reducible refine wpList_build_1 (t := a0) ?_ (.const (.int .i64 1)) (.tmp 27) (.tmp 28) rfl rfl rfl rfl ?_); · rfl)
    | ((with_reducible refine wpList_store_ev (c := ⟨1, a0.id, a0, zD⟩) rfl (.tmp 5) (.tmp 29) rfl rfl rfl (new_zeroE _) ?_); intro W4 h4 b4 s4))
  have hB4 := b4.below (hB3.alloc (by have := hB3.size; omega) _) (by have := hB3.size; omega)
  have K4 := hid (b4.at (old_at K3.out zeroEO) (by omega))
  obtain ⟨ge, hge⟩ : ∃ ge, Hid (v3.heap.size = ge) := ⟨_, rfl⟩
  rw [hge.out] at h4
  have E4 := hid h4
  try rw [hge.out]
  have lge : ge < W4.heap.size := at_lt h4
  have lk4 := at_lt K4.out
  clear b4 s4 h4 hB3 K3 c lw hge
  try simp only [Act.put]
  go_upto_region 7 with (first
    | ((with_reducible refine wpList_load_ev rfl (.tmp 5) rfl rfl E4.out ?_))
    | ((with_reducible refine wpList_store_ev (c := ⟨1, a0.id, a0, zD⟩) rfl (.tmp 6) (.tmp 30) rfl rfl rfl (new_zeroE _) ?_); intro W5 h5 b5 s5))
  have hB5 := b5.below (hB4.alloc (by have := hB4.size; omega) _) (by have := hB4.size; omega)
  have K5 := hid (b5.at (old_at K4.out zeroEO) (by omega))
  have E5 := hid (b5.at (old_at E4.out zeroEO) (by omega))
  obtain ⟨gx, hgx⟩ : ∃ gx, Hid (W4.heap.size = gx) := ⟨_, rfl⟩
  rw [hgx.out] at h5
  have X5 := hid h5
  try rw [hgx.out]
  have hexn : ge ≠ gx := by rw [← hgx.out]; omega
  have hkx : w.heap.size ≠ gx := by rw [← hgx.out]; omega
  have hwx : w.heap.size ≤ gx := by rw [← hgx.out]; omega
  clear b5 s5 h5 hB4 K4 E4 hgx lge lk4
  try simp only [Act.put]
  have c := cells_at K5.out
  have cx := cells_at X5.out
  obtain ⟨r, hr⟩ : ∃ r : Nat, a1 % 5 = (r : Int) := ⟨(a1 % 5).toNat, by omega⟩
  have hr5 : r = 0 ∨ r = 1 ∨ r = 2 ∨ r = 3 ∨ r = 4 := by omega
  rcases hr5 with rfl | rfl | rfl | rfl | rfl
  · go_upto_region 17 with fail
    generalize hW6 : W5.setCell _ _ = W6
    have HX := hid (show W6.heap[gx]? = some (spoilE a0 0).o by rw [← hW6]; exact set_at X5.out _ rfl)
    have HE := hid (show W6.heap[ge]? = some (⟨1, a0.id, a0, zD⟩ : Ev).o by rw [← hW6]; exact set_off E5.out hexn _)
    have hB6 : Below w.heap.size w W6 := by rw [← hW6]; exact But.below hB5 ((But.refl gx W5).setCell _ _) hwx
    obtain ⟨X, hX⟩ : ∃ X, Hid (spoilE a0 0 = X) := ⟨_, rfl⟩
    rw [hX.out] at HX
    have hXn : Hid (isE X = false) := by show isE X = false; rw [← hX.out]; exact HN.out 0
    have hXi : inE X := by rw [← hX.out]; exact HI.out 0
    clear hW6 hB5 K5 E5 X5 c cx hX HN HI
    have hBy : Hid (esB [⟨1, a0.id, a0, zD⟩, X] = ([], 11)) := esB_no (by simp [hXn.out])
    have hDo : Hid (doE [] X = ([], false)) := doE_bad hXn.out
    have hEi : inE ⟨1, a0.id, a0, zD⟩ := ⟨W0.out, inD_z⟩
    have hLi : ∀ e ∈ ([⟨1, a0.id, a0, zD⟩, X] : List Ev), inE e := fun e he => by
      simp only [List.mem_cons, List.not_mem_nil, or_false] at he
      rcases he with rfl | rfl
      · exact hEi
      · exact hXi
    try simp only [Act.put]
    go_wp2_with (first
      | ((with_reducible refine wpList_load_ev rfl (.tmp 5) rfl rfl HE.out ?_))
      | ((with_reducible refine wpList_load_ev rfl (.tmp 6) rfl rfl HX.out ?_)))
    generalize hW7 : W6.alloc _ = W7
    have HR := hid (show RowE W7 (some ⟨W6.heap.size, 0, none⟩) [⟨1, a0.id, a0, zD⟩, X] by rw [← hW7]; exact rowE_block (new_at _ _ _ rfl) rfl)
    have HX7 := hid (show W7.heap[gx]? = some X.o by rw [← hW7]; exact old_at HX.out _)
    have HE7 := hid (show W7.heap[ge]? = some (⟨1, a0.id, a0, zD⟩ : Ev).o by rw [← hW7]; exact old_at HE.out _)
    have hB7 : Below w.heap.size w W7 := by rw [← hW7]; exact hB6.alloc hB6.size _
    clear hW7 hB6 HX HE
    refine (event_bytes hBy HR.out hLi (show Hid (([⟨1, a0.id, a0, zD⟩, X] : List Ev).length = 2) from rfl) (by decide)).mono ?_
    rintro x y1 ⟨rfl, hd1⟩
    have hD1 := below_on hB7 hd1
    have HX8 := hid (var_on hd1 HX7.out (at_lt HX7.out))
    have HE8 := hid (var_on hd1 HE7.out (at_lt HE7.out))
    clear hd1 hB7 HX7 HE7 HR
    go_wp2_with ((with_reducible refine wpList_load_ev rfl (.tmp 6) rfl rfl HX8.out ?_))
    refine (event_apply (p := none) (cap := 0) (e := X) hDo (.inl rfl) rise_nil (show Hid (([] : List Th).length = 0) from rfl) (by decide) hXi (show Hid (([] : List Th).length = 0) from rfl)).mono ?_
    rintro x y2 ⟨p2, d2, rfl, ho2, hd2⟩
    have hD2 := below_on hD1 hd2
    have HX9 := hid (var_on hd2 HX8.out (at_lt HX8.out))
    have HE9 := hid (var_on hd2 HE8.out (at_lt HE8.out))
    clear hd2 hD1 HX8 HE8 ho2
    go_wp2_with ((with_reducible refine wpList_load_ev rfl (.tmp 5) rfl rfl HE9.out ?_))
    refine (event_is (show Hid (isE ⟨1, a0.id, a0, zD⟩ = true) from HG.out) hEi _).mono ?_
    rintro x y3 ⟨rfl, hd3⟩
    have hD3 := below_on hD2 hd3
    have HX10 := hid (var_on hd3 HX9.out (at_lt HX9.out))
    clear hd3 hD2 HX9 HE9
    go_wp2_with ((with_reducible refine wpList_load_evG ?_ (.tmp 6) rfl rfl HX10.out ?_); · rfl)
    refine (event_is hXn hXi _).mono ?_
    rintro x y4 ⟨rfl, hd4⟩
    have hD4 := below_on hD3 hd4
    clear hd4 hD3 HX10
    go_wp2_with fail
    go_ret
    exact ⟨rfl, hD4⟩
  · go_upto_region 17 with fail
    generalize hW6 : W5.setCell _ _ = W6
    have HX := hid (show W6.heap[gx]? = some (spoilE a0 1).o by rw [← hW6]; exact set_at X5.out _ rfl)
    have HE := hid (show W6.heap[ge]? = some (⟨1, a0.id, a0, zD⟩ : Ev).o by rw [← hW6]; exact set_off E5.out hexn _)
    have hB6 : Below w.heap.size w W6 := by rw [← hW6]; exact But.below hB5 ((But.refl gx W5).setCell _ _) hwx
    obtain ⟨X, hX⟩ : ∃ X, Hid (spoilE a0 1 = X) := ⟨_, rfl⟩
    rw [hX.out] at HX
    have hXn : Hid (isE X = false) := by show isE X = false; rw [← hX.out]; exact HN.out 1
    have hXi : inE X := by rw [← hX.out]; exact HI.out 1
    clear hW6 hB5 K5 E5 X5 c cx hX HN HI
    have hBy : Hid (esB [⟨1, a0.id, a0, zD⟩, X] = ([], 11)) := esB_no (by simp [hXn.out])
    have hDo : Hid (doE [] X = ([], false)) := doE_bad hXn.out
    have hEi : inE ⟨1, a0.id, a0, zD⟩ := ⟨W0.out, inD_z⟩
    have hLi : ∀ e ∈ ([⟨1, a0.id, a0, zD⟩, X] : List Ev), inE e := fun e he => by
      simp only [List.mem_cons, List.not_mem_nil, or_false] at he
      rcases he with rfl | rfl
      · exact hEi
      · exact hXi
    try simp only [Act.put]
    go_wp2_with (first
      | ((with_reducible refine wpList_load_ev rfl (.tmp 5) rfl rfl HE.out ?_))
      | ((with_reducible refine wpList_load_ev rfl (.tmp 6) rfl rfl HX.out ?_)))
    generalize hW7 : W6.alloc _ = W7
    have HR := hid (show RowE W7 (some ⟨W6.heap.size, 0, none⟩) [⟨1, a0.id, a0, zD⟩, X] by rw [← hW7]; exact rowE_block (new_at _ _ _ rfl) rfl)
    have HX7 := hid (show W7.heap[gx]? = some X.o by rw [← hW7]; exact old_at HX.out _)
    have HE7 := hid (show W7.heap[ge]? = some (⟨1, a0.id, a0, zD⟩ : Ev).o by rw [← hW7]; exact old_at HE.out _)
    have hB7 : Below w.heap.size w W7 := by rw [← hW7]; exact hB6.alloc hB6.size _
    clear hW7 hB6 HX HE
    refine (event_bytes hBy HR.out hLi (show Hid (([⟨1, a0.id, a0, zD⟩, X] : List Ev).length = 2) from rfl) (by decide)).mono ?_
    rintro x y1 ⟨rfl, hd1⟩
    have hD1 := below_on hB7 hd1
    have HX8 := hid (var_on hd1 HX7.out (at_lt HX7.out))
    have HE8 := hid (var_on hd1 HE7.out (at_lt HE7.out))
    clear hd1 hB7 HX7 HE7 HR
    go_wp2_with ((with_reducible refine wpList_load_ev rfl (.tmp 6) rfl rfl HX8.out ?_))
    refine (event_apply (p := none) (cap := 0) (e := X) hDo (.inl rfl) rise_nil (show Hid (([] : List Th).length = 0) from rfl) (by decide) hXi (show Hid (([] : List Th).length = 0) from rfl)).mono ?_
    rintro x y2 ⟨p2, d2, rfl, ho2, hd2⟩
    have hD2 := below_on hD1 hd2
    have HX9 := hid (var_on hd2 HX8.out (at_lt HX8.out))
    have HE9 := hid (var_on hd2 HE8.out (at_lt HE8.out))
    clear hd2 hD1 HX8 HE8 ho2
    go_wp2_with ((with_reducible refine wpList_load_ev rfl (.tmp 5) rfl rfl HE9.out ?_))
    refine (event_is (show Hid (isE ⟨1, a0.id, a0, zD⟩ = true) from HG.out) hEi _).mono ?_
    rintro x y3 ⟨rfl, hd3⟩
    have hD3 := below_on hD2 hd3
    have HX10 := hid (var_on hd3 HX9.out (at_lt HX9.out))
    clear hd3 hD2 HX9 HE9
    go_wp2_with ((with_reducible refine wpList_load_evG ?_ (.tmp 6) rfl rfl HX10.out ?_); · rfl)
    refine (event_is hXn hXi _).mono ?_
    rintro x y4 ⟨rfl, hd4⟩
    have hD4 := below_on hD3 hd4
    clear hd4 hD3 HX10
    go_wp2_with fail
    go_ret
    exact ⟨rfl, hD4⟩
  · go_upto_region 17 with fail
    generalize hW6 : W5.setCell _ _ = W6
    have HX := hid (show W6.heap[gx]? = some (spoilE a0 2).o by rw [← hW6]; exact set_at X5.out _ rfl)
    have HE := hid (show W6.heap[ge]? = some (⟨1, a0.id, a0, zD⟩ : Ev).o by rw [← hW6]; exact set_off E5.out hexn _)
    have hB6 : Below w.heap.size w W6 := by rw [← hW6]; exact But.below hB5 ((But.refl gx W5).setCell _ _) hwx
    obtain ⟨X, hX⟩ : ∃ X, Hid (spoilE a0 2 = X) := ⟨_, rfl⟩
    rw [hX.out] at HX
    have hXn : Hid (isE X = false) := by show isE X = false; rw [← hX.out]; exact HN.out 2
    have hXi : inE X := by rw [← hX.out]; exact HI.out 2
    clear hW6 hB5 K5 E5 X5 c cx hX HN HI
    have hBy : Hid (esB [⟨1, a0.id, a0, zD⟩, X] = ([], 11)) := esB_no (by simp [hXn.out])
    have hDo : Hid (doE [] X = ([], false)) := doE_bad hXn.out
    have hEi : inE ⟨1, a0.id, a0, zD⟩ := ⟨W0.out, inD_z⟩
    have hLi : ∀ e ∈ ([⟨1, a0.id, a0, zD⟩, X] : List Ev), inE e := fun e he => by
      simp only [List.mem_cons, List.not_mem_nil, or_false] at he
      rcases he with rfl | rfl
      · exact hEi
      · exact hXi
    try simp only [Act.put]
    go_wp2_with (first
      | ((with_reducible refine wpList_load_ev rfl (.tmp 5) rfl rfl HE.out ?_))
      | ((with_reducible refine wpList_load_ev rfl (.tmp 6) rfl rfl HX.out ?_)))
    generalize hW7 : W6.alloc _ = W7
    have HR := hid (show RowE W7 (some ⟨W6.heap.size, 0, none⟩) [⟨1, a0.id, a0, zD⟩, X] by rw [← hW7]; exact rowE_block (new_at _ _ _ rfl) rfl)
    have HX7 := hid (show W7.heap[gx]? = some X.o by rw [← hW7]; exact old_at HX.out _)
    have HE7 := hid (show W7.heap[ge]? = some (⟨1, a0.id, a0, zD⟩ : Ev).o by rw [← hW7]; exact old_at HE.out _)
    have hB7 : Below w.heap.size w W7 := by rw [← hW7]; exact hB6.alloc hB6.size _
    clear hW7 hB6 HX HE
    refine (event_bytes hBy HR.out hLi (show Hid (([⟨1, a0.id, a0, zD⟩, X] : List Ev).length = 2) from rfl) (by decide)).mono ?_
    rintro x y1 ⟨rfl, hd1⟩
    have hD1 := below_on hB7 hd1
    have HX8 := hid (var_on hd1 HX7.out (at_lt HX7.out))
    have HE8 := hid (var_on hd1 HE7.out (at_lt HE7.out))
    clear hd1 hB7 HX7 HE7 HR
    go_wp2_with ((with_reducible refine wpList_load_ev rfl (.tmp 6) rfl rfl HX8.out ?_))
    refine (event_apply (p := none) (cap := 0) (e := X) hDo (.inl rfl) rise_nil (show Hid (([] : List Th).length = 0) from rfl) (by decide) hXi (show Hid (([] : List Th).length = 0) from rfl)).mono ?_
    rintro x y2 ⟨p2, d2, rfl, ho2, hd2⟩
    have hD2 := below_on hD1 hd2
    have HX9 := hid (var_on hd2 HX8.out (at_lt HX8.out))
    have HE9 := hid (var_on hd2 HE8.out (at_lt HE8.out))
    clear hd2 hD1 HX8 HE8 ho2
    go_wp2_with ((with_reducible refine wpList_load_ev rfl (.tmp 5) rfl rfl HE9.out ?_))
    refine (event_is (show Hid (isE ⟨1, a0.id, a0, zD⟩ = true) from HG.out) hEi _).mono ?_
    rintro x y3 ⟨rfl, hd3⟩
    have hD3 := below_on hD2 hd3
    have HX10 := hid (var_on hd3 HX9.out (at_lt HX9.out))
    clear hd3 hD2 HX9 HE9
    go_wp2_with ((with_reducible refine wpList_load_evG ?_ (.tmp 6) rfl rfl HX10.out ?_); · rfl)
    refine (event_is hXn hXi _).mono ?_
    rintro x y4 ⟨rfl, hd4⟩
    have hD4 := below_on hD3 hd4
    clear hd4 hD3 HX10
    go_wp2_with fail
    go_ret
    exact ⟨rfl, hD4⟩
  · go_upto_region 17 with fail
    generalize hW6 : W5.setCell _ _ = W6
    have HX := hid (show W6.heap[gx]? = some (spoilE a0 3).o by rw [← hW6]; exact set_at X5.out _ rfl)
    have HE := hid (show W6.heap[ge]? = some (⟨1, a0.id, a0, zD⟩ : Ev).o by rw [← hW6]; exact set_off E5.out hexn _)
    have hB6 : Below w.heap.size w W6 := by rw [← hW6]; exact But.below hB5 ((But.refl gx W5).setCell _ _) hwx
    obtain ⟨X, hX⟩ : ∃ X, Hid (spoilE a0 3 = X) := ⟨_, rfl⟩
    rw [hX.out] at HX
    have hXn : Hid (isE X = false) := by show isE X = false; rw [← hX.out]; exact HN.out 3
    have hXi : inE X := by rw [← hX.out]; exact HI.out 3
    clear hW6 hB5 K5 E5 X5 c cx hX HN HI
    have hBy : Hid (esB [⟨1, a0.id, a0, zD⟩, X] = ([], 11)) := esB_no (by simp [hXn.out])
    have hDo : Hid (doE [] X = ([], false)) := doE_bad hXn.out
    have hEi : inE ⟨1, a0.id, a0, zD⟩ := ⟨W0.out, inD_z⟩
    have hLi : ∀ e ∈ ([⟨1, a0.id, a0, zD⟩, X] : List Ev), inE e := fun e he => by
      simp only [List.mem_cons, List.not_mem_nil, or_false] at he
      rcases he with rfl | rfl
      · exact hEi
      · exact hXi
    try simp only [Act.put]
    go_wp2_with (first
      | ((with_reducible refine wpList_load_ev rfl (.tmp 5) rfl rfl HE.out ?_))
      | ((with_reducible refine wpList_load_ev rfl (.tmp 6) rfl rfl HX.out ?_)))
    generalize hW7 : W6.alloc _ = W7
    have HR := hid (show RowE W7 (some ⟨W6.heap.size, 0, none⟩) [⟨1, a0.id, a0, zD⟩, X] by rw [← hW7]; exact rowE_block (new_at _ _ _ rfl) rfl)
    have HX7 := hid (show W7.heap[gx]? = some X.o by rw [← hW7]; exact old_at HX.out _)
    have HE7 := hid (show W7.heap[ge]? = some (⟨1, a0.id, a0, zD⟩ : Ev).o by rw [← hW7]; exact old_at HE.out _)
    have hB7 : Below w.heap.size w W7 := by rw [← hW7]; exact hB6.alloc hB6.size _
    clear hW7 hB6 HX HE
    refine (event_bytes hBy HR.out hLi (show Hid (([⟨1, a0.id, a0, zD⟩, X] : List Ev).length = 2) from rfl) (by decide)).mono ?_
    rintro x y1 ⟨rfl, hd1⟩
    have hD1 := below_on hB7 hd1
    have HX8 := hid (var_on hd1 HX7.out (at_lt HX7.out))
    have HE8 := hid (var_on hd1 HE7.out (at_lt HE7.out))
    clear hd1 hB7 HX7 HE7 HR
    go_wp2_with ((with_reducible refine wpList_load_ev rfl (.tmp 6) rfl rfl HX8.out ?_))
    refine (event_apply (p := none) (cap := 0) (e := X) hDo (.inl rfl) rise_nil (show Hid (([] : List Th).length = 0) from rfl) (by decide) hXi (show Hid (([] : List Th).length = 0) from rfl)).mono ?_
    rintro x y2 ⟨p2, d2, rfl, ho2, hd2⟩
    have hD2 := below_on hD1 hd2
    have HX9 := hid (var_on hd2 HX8.out (at_lt HX8.out))
    have HE9 := hid (var_on hd2 HE8.out (at_lt HE8.out))
    clear hd2 hD1 HX8 HE8 ho2
    go_wp2_with ((with_reducible refine wpList_load_ev rfl (.tmp 5) rfl rfl HE9.out ?_))
    refine (event_is (show Hid (isE ⟨1, a0.id, a0, zD⟩ = true) from HG.out) hEi _).mono ?_
    rintro x y3 ⟨rfl, hd3⟩
    have hD3 := below_on hD2 hd3
    have HX10 := hid (var_on hd3 HX9.out (at_lt HX9.out))
    clear hd3 hD2 HX9 HE9
    go_wp2_with ((with_reducible refine wpList_load_evG ?_ (.tmp 6) rfl rfl HX10.out ?_); · rfl)
    refine (event_is hXn hXi _).mono ?_
    rintro x y4 ⟨rfl, hd4⟩
    have hD4 := below_on hD3 hd4
    clear hd4 hD3 HX10
    go_wp2_with fail
    go_ret
    exact ⟨rfl, hD4⟩
  · go_upto_region 17 with fail
    generalize hW6 : W5.setCell _ _ = W6
    have HX := hid (show W6.heap[gx]? = some (spoilE a0 4).o by rw [← hW6]; exact set_at X5.out _ rfl)
    have HE := hid (show W6.heap[ge]? = some (⟨1, a0.id, a0, zD⟩ : Ev).o by rw [← hW6]; exact set_off E5.out hexn _)
    have hB6 : Below w.heap.size w W6 := by rw [← hW6]; exact But.below hB5 ((But.refl gx W5).setCell _ _) hwx
    obtain ⟨X, hX⟩ : ∃ X, Hid (spoilE a0 4 = X) := ⟨_, rfl⟩
    rw [hX.out] at HX
    have hXn : Hid (isE X = false) := by show isE X = false; rw [← hX.out]; exact HN.out 4
    have hXi : inE X := by rw [← hX.out]; exact HI.out 4
    clear hW6 hB5 K5 E5 X5 c cx hX HN HI
    have hBy : Hid (esB [⟨1, a0.id, a0, zD⟩, X] = ([], 11)) := esB_no (by simp [hXn.out])
    have hDo : Hid (doE [] X = ([], false)) := doE_bad hXn.out
    have hEi : inE ⟨1, a0.id, a0, zD⟩ := ⟨W0.out, inD_z⟩
    have hLi : ∀ e ∈ ([⟨1, a0.id, a0, zD⟩, X] : List Ev), inE e := fun e he => by
      simp only [List.mem_cons, List.not_mem_nil, or_false] at he
      rcases he with rfl | rfl
      · exact hEi
      · exact hXi
    try simp only [Act.put]
    go_wp2_with (first
      | ((with_reducible refine wpList_load_ev rfl (.tmp 5) rfl rfl HE.out ?_))
      | ((with_reducible refine wpList_load_ev rfl (.tmp 6) rfl rfl HX.out ?_)))
    generalize hW7 : W6.alloc _ = W7
    have HR := hid (show RowE W7 (some ⟨W6.heap.size, 0, none⟩) [⟨1, a0.id, a0, zD⟩, X] by rw [← hW7]; exact rowE_block (new_at _ _ _ rfl) rfl)
    have HX7 := hid (show W7.heap[gx]? = some X.o by rw [← hW7]; exact old_at HX.out _)
    have HE7 := hid (show W7.heap[ge]? = some (⟨1, a0.id, a0, zD⟩ : Ev).o by rw [← hW7]; exact old_at HE.out _)
    have hB7 : Below w.heap.size w W7 := by rw [← hW7]; exact hB6.alloc hB6.size _
    clear hW7 hB6 HX HE
    refine (event_bytes hBy HR.out hLi (show Hid (([⟨1, a0.id, a0, zD⟩, X] : List Ev).length = 2) from rfl) (by decide)).mono ?_
    rintro x y1 ⟨rfl, hd1⟩
    have hD1 := below_on hB7 hd1
    have HX8 := hid (var_on hd1 HX7.out (at_lt HX7.out))
    have HE8 := hid (var_on hd1 HE7.out (at_lt HE7.out))
    clear hd1 hB7 HX7 HE7 HR
    go_wp2_with ((with_reducible refine wpList_load_ev rfl (.tmp 6) rfl rfl HX8.out ?_))
    refine (event_apply (p := none) (cap := 0) (e := X) hDo (.inl rfl) rise_nil (show Hid (([] : List Th).length = 0) from rfl) (by decide) hXi (show Hid (([] : List Th).length = 0) from rfl)).mono ?_
    rintro x y2 ⟨p2, d2, rfl, ho2, hd2⟩
    have hD2 := below_on hD1 hd2
    have HX9 := hid (var_on hd2 HX8.out (at_lt HX8.out))
    have HE9 := hid (var_on hd2 HE8.out (at_lt HE8.out))
    clear hd2 hD1 HX8 HE8 ho2
    go_wp2_with ((with_reducible refine wpList_load_ev rfl (.tmp 5) rfl rfl HE9.out ?_))
    refine (event_is (show Hid (isE ⟨1, a0.id, a0, zD⟩ = true) from HG.out) hEi _).mono ?_
    rintro x y3 ⟨rfl, hd3⟩
    have hD3 := below_on hD2 hd3
    have HX10 := hid (var_on hd3 HX9.out (at_lt HX9.out))
    clear hd3 hD2 HX9 HE9
    go_wp2_with ((with_reducible refine wpList_load_evG ?_ (.tmp 6) rfl rfl HX10.out ?_); · rfl)
    refine (event_is hXn hXi _).mono ?_
    rintro x y4 ⟨rfl, hd4⟩
    have hD4 := below_on hD3 hd4
    clear hd4 hD3 HX10
    go_wp2_with fail
    go_ret
    exact ⟨rfl, hD4⟩

theorem eventSpoils_own : ownKnob Try.prog.godebug = none := by kernel_rfl
theorem eventSpoils_laidOut : laidOutB Try.prog = true := by kernel_rfl
set_option maxRecDepth 100000 in
theorem eventSpoils_lifted (os : Os) (started : os.Started) (H : Type) (enc : TypeId × Value → H) :
    ReturnsInHanded {} Try.checked os 6 .any (Rows.eventSpoilsSpec.pre6 enc Try.prog Try.f6 Rows.eventSpoilsRow.domain false) (Rows.eventSpoilsSpec.post enc Try.prog Try.f6 false true false false) := by
  refine returnsInHanded_of_change (C := Try.checked) eventSpoils_own started (by kernel_rfl) Try.func6
    (ChangeSpec.witness6 (enc := enc) (C := Try.checked) false ⟨#[], #[.agg #[.int .i64 0, .int .i64 0, .int .i64 0, .int .i64 0, .string ByteArray.empty, .int .i64 0, .string ByteArray.empty, .int .i64 0, .string ByteArray.empty, .int .i64 0, .string ByteArray.empty], .int .u8 0], []⟩ 8 (by kernel_rfl) (by kernel_rfl) (by kernel_rfl) (by kernel_rfl)) ?_
  intro W base args ds gs before hval0 hW hcnd _
  have hval : ∀ (j : Nat) t v, Try.f6.params[j]? = some t → args[j]? = some v → Value.okWide Try.prog W .any base t v := hval0
  have hW' := hW
  obtain ⟨p, q, hA0, hV, rfl, hfz, hnd⟩ := hW
  have hA : DataW.TrodAll enc Try.prog W 0 (fun _ => true) true Try.f6.params.toList args.toList ds p := hA0
  rw [Try.params6] at hA hval
  obtain ⟨v0, vs0, d0, ds0, p0, q0, hargs, rfl, rfl, h0, r0⟩ := trodAll_cons hA
  obtain ⟨v1, vs1, d1, ds1, p1, q1, rfl, rfl, rfl, h1, r1⟩ := trodAll_cons r0
  obtain ⟨rfl, rfl, rfl⟩ := trodAll_nil r1
  obtain rfl : args = #[v0, v1] := by cases args; simp_all
  obtain ⟨rfl, rfl⟩ := trodVars_none hV
  have k0 := h0
  have lt0 : ∀ x ∈ p0, x.block < W.heap.size := by obtain ⟨m, hm⟩ := k0; exact DataW.trod_lt m _ _ _ hm
  have k1 := h1
  have lt1 : ∀ x ∈ p1, x.block < W.heap.size := by obtain ⟨m, hm⟩ := k1; exact DataW.trod_lt m _ _ _ hm
  obtain ⟨a0, rfl, w0⟩ := open_th (hval 0 43 v0 rfl rfl) h0
  obtain ⟨a1, rfl, rfl, rfl, w1⟩ := open_int Try.underlying5 (hval 1 5 v1 rfl rfl) h1
  clear hA0 hval0
  refine (eventSpoils_walk W a0 w0 a1 w1).mono fun e W' ⟨he, bel⟩ => ?_
  subst he
  exact ⟨_, rfl, _, _, _, [], _, [], hW', trodAll_mk1 (shut_bool Try.underlying4 _), (trodAll_cons_mk (Below.trod eventSpoils_laidOut (by kernel_rfl) (of_decide_eq_true (by kernel_rfl)) k0 bel lt0) (trodAll_cons_mk (Below.trod eventSpoils_laidOut (by kernel_rfl) (of_decide_eq_true (by kernel_rfl)) k1 bel lt1) trodAll_mk0)), rfl, bel.frame _, fun h => by cases h⟩

theorem eventSpoils_over : Rows.eventSpoilsRow.holds Try.pinned (OpenSpec.ofChange Rows.eventSpoilsSpec) :=
  OpenClaim.holds_of_wide 6 Try.f6 rfl rfl rfl rfl rfl rfl rfl ⟨rfl, rfl, rfl, rfl, rfl⟩ rfl rfl rfl rfl rfl (by kernel_rfl) Try.func6 (by kernel_rfl)
    (of_decide_eq_true (by kernel_rfl)) (by unfold Func.isWrapper; first | (rw [if_pos (by decide +kernel)]; kernel_rfl) | (rw [if_neg (by decide +kernel)]; exact ⟨rfl, rfl⟩))
    (fun os started H enc _ => eventSpoils_lifted os started H enc)

theorem eventSpoils_holds : Rows.EventSpoilsSaid := eventSpoils_over
#print axioms eventSpoils_holds
end Go.Proofs.Ytkklchobiiajgaa
