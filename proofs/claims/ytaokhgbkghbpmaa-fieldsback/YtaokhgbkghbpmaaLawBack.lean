/- For every two things a, b and every tail: FieldsBack answers true: what changed makes the new thing of the old one; written and read, whatever stands behind it, it is the same; nothing else is changed (things with a text above 40 bytes, what is no thing, and tails above 50 bytes are passed over by the statement itself). -/
import Derived.Test.YtaokhgbkghbpmaaKnown6
import Derived.Test.YtaokhgbkghbpmaaFldM
import Derived.Deep.Cut
import Derived.ProofKit
import Derived.OpenShut
import Derived.ShutString
import Derived.ChangeOld
import Derived.Below
import Derived.SizedLaws
namespace Go.Proofs.Ytaokhgbkghbpmaa
open Go.ChangeShapes Go.WideShapes Go.ChangeAt Go.RowKit
open Go.ChangeMaps (open_string shut_string)
set_option linter.unusedVariables false

theorem few_thing_at {d : Th} {r : Bool} (h : few4 d.f = r) (w : World) (hi : inT d) : Calls Try.prog 10 #[d.v] w fun e w' => e = .returned (.bool r) ∧ Below w.heap.size w w' := by
  rw [← h]; exact few_thing w d hi
theorem isT_at {d : Th} {r : Bool} (h : isTK d 4 = r) (w : World) (hi : inT d) : Calls Try.prog 26 #[d.v] w fun e w' => e = .returned (.bool r) ∧ Below w.heap.size w w' := by
  rw [← h]; exact ref_isT w d hi
theorem isT_parts {t : Th} (h : isTK t 4 = true) : 0 ≤ t.id ∧ t.id ≤ 1000000 ∧ onB t.x t.y = true ∧ isF t.f0 = true ∧ isF t.f1 = true ∧ isF t.f2 = true ∧ isF t.f3 = true := by
  simp only [isTK, Bool.and_eq_true, decide_eq_true_eq] at h
  obtain ⟨⟨⟨⟨⟨⟨h1, h2⟩, h3⟩, h4⟩, h5⟩, h6⟩, h7⟩ := h
  exact ⟨h1, h2, h3, h4, h5, h6, h7⟩
theorem back_f {n : Bool} {f : Fl} (hf : isF f = true) : (isF (bif n then f else zF) && (n || eqF (bif n then f else zF) zF)) = true := by
  cases n
  · show (isF zF && (false || eqF zF zF)) = true
    decide +kernel
  · simp [hf]
theorem back_isD {a b : Th} {x : Dl} (hd : diff a ⟨a.id, b.x, b.y, b.f0, b.f1, b.f2, b.f3⟩ = (x, true)) (ha : isTK a 4 = true) (hb : isTK b 4 = true) : isD x = true := by
  obtain ⟨h1, h2⟩ := diff_yes hd
  obtain ⟨a1, a2, a3, a4, a5, a6, a7⟩ := isT_parts ha
  obtain ⟨b1, b2, b3, b4, b5, b6, b7⟩ := isT_parts hb
  have hm := diff_m hd
  rw [h1] at h2 hm ⊢
  rw [dK4] at h2 hm ⊢
  obtain ⟨m0, m1, m2, m3, m4⟩ := msk_bits (ne0 a ⟨a.id, b.x, b.y, b.f0, b.f1, b.f2, b.f3⟩) (neF a.f0 b.f0) (neF a.f1 b.f1) (neF a.f2 b.f2) (neF a.f3 b.f3)
  refine isD_yes ⟨a1, a2, Nat.pos_of_ne_zero h2, hm⟩ ?_ ?_ ?_
  · simp only
    cases ne0 a ⟨a.id, b.x, b.y, b.f0, b.f1, b.f2, b.f3⟩
    · rfl
    · exact b3
  · simp only
    rw [m0]
    cases ne0 a ⟨a.id, b.x, b.y, b.f0, b.f1, b.f2, b.f3⟩ <;> rfl
  · intro j hj
    unfold okf
    obtain rfl | rfl | rfl | rfl : j = 0 ∨ j = 1 ∨ j = 2 ∨ j = 3 := by omega
    · simp only [Dl.f]; rw [m1]; exact back_f b4
    · simp only [Dl.f]; rw [m2]; exact back_f b5
    · simp only [Dl.f]; rw [m3]; exact back_f b6
    · simp only [Dl.f]; rw [m4]; exact back_f b7
theorem back_fit {n : Bool} {f : Fl} (h : fitF f) : fitF (bif n then f else zF) := by
  cases n
  · exact (⟨by decide, by decide, by decide⟩ : fitF zF)
  · exact h
theorem few_fitT {t : Th} (h : few4 t.f = true) (hi : inT t) : fitF t.f0 ∧ fitF t.f1 ∧ fitF t.f2 ∧ fitF t.f3 := by
  obtain ⟨i0, i1, i2, i3⟩ := hi
  unfold few4 fewF at h
  simp only [Bool.and_eq_true, decide_eq_true_eq, Th.f] at h
  obtain ⟨h0, h1, h2, h3⟩ := h
  exact ⟨⟨by omega, i0.2⟩, ⟨by omega, i1.2⟩, ⟨by omega, i2.2⟩, ⟨by omega, i3.2⟩⟩
theorem back_fits {a b : Th} {x : Dl} (hd : diff a ⟨a.id, b.x, b.y, b.f0, b.f1, b.f2, b.f3⟩ = (x, true)) (hf : fitF b.f0 ∧ fitF b.f1 ∧ fitF b.f2 ∧ fitF b.f3) : ∀ k, fitF (x.f k) := by
  rw [(diff_yes hd).1, dK4]
  intro k
  match k with
  | 0 => exact back_fit hf.1
  | 1 => exact back_fit hf.2.1
  | 2 => exact back_fit hf.2.2.1
  | k + 3 => exact back_fit hf.2.2.2
theorem diff_self (c : Th) : diff c c = (zD, false) := by
  unfold diff
  rw [if_pos]
  rw [dK4]
  have e0 : ne0 c c = false := by simp [ne0, pEq]
  have e1 : ∀ f : Fl, neF f f = false := fun f => by simp [neF, eqF_self]
  simp only [e0, e1]
  rfl
theorem back_id {a b : Th} {x : Dl} (hd : diff a ⟨a.id, b.x, b.y, b.f0, b.f1, b.f2, b.f3⟩ = (x, true)) : x.id = a.id := by
  rw [(diff_yes hd).1, dK4]
set_option maxRecDepth 100000 in
set_option maxHeartbeats 8000000 in
theorem fieldsBack_walk (w : World) (a0 : Th) (w0 : inT a0) (a1 : Th) (w1 : inT a1) (a2 : ByteArray) (w2 : a2.size ≤ maxLen) : Calls Try.prog 5 #[a0.v, a1.v, .string a2] w fun e w' => e = .returned (.bool true) ∧ Below w.heap.size w w' := by
  unfold maxLen at w2
  have W0 := hid w0
  have W1 := hid w1
  clear w0 w1
  have K0 : Hid (((w.alloc a0.o).alloc a1.o).heap[w.heap.size]? = some a0.o) := hid (old_at (new_at _ _ _ rfl) _)
  have K1 : Hid (((w.alloc a0.o).alloc a1.o).heap[w.heap.size + 1]? = some a1.o) := hid (new_at _ _ _ (by simp))
  obtain ⟨f0, h0⟩ : ∃ f, Hid (few4 a0.f = f) := ⟨_, rfl⟩
  obtain ⟨f1, h1⟩ : ∃ f, Hid (few4 a1.f = f) := ⟨_, rfl⟩
  obtain ⟨f2, h2⟩ : ∃ f, Hid (isTK a0 4 = f) := ⟨_, rfl⟩
  obtain ⟨f3, h3⟩ : ∃ f, Hid (isTK a1 4 = f) := ⟨_, rfl⟩
  go_enter Try.func5, Try.ntmps5
  go_wp2_with fail
  refine (known_holds _).mono ?_
  rintro x w3 ⟨rfl, hb⟩
  have hB := below_on (Go.Joins.below_alloc2 w a0.o a1.o) hb
  replace K0 := hid (var_on hb (K0.out) (at_lt (K0.out)))
  replace K1 := hid (var_on hb (K1.out) (at_lt (K1.out)))
  clear hb
  have c0 := cells_at K0.out
  have c1 := cells_at K1.out
  have l0 := at_lt K0.out
  have l1 := at_lt K1.out
  go_wp2_with fail
  refine (few_thing_at h0.out _ W0.out).mono ?_
  rintro x w4 ⟨rfl, hb⟩
  replace hB := below_on hB hb
  replace K0 := hid (var_on hb (K0.out) (at_lt (K0.out)))
  replace K1 := hid (var_on hb (K1.out) (at_lt (K1.out)))
  clear hb c0 c1
  have c0 := cells_at K0.out
  have c1 := cells_at K1.out
  replace l0 := at_lt K0.out
  replace l1 := at_lt K1.out
  cases f0
  · go_wp2_with fail
    go_ret
    exact ⟨rfl, hB⟩
  go_wp2_with fail
  refine (few_thing_at h1.out _ W1.out).mono ?_
  rintro x w4 ⟨rfl, hb⟩
  replace hB := below_on hB hb
  replace K0 := hid (var_on hb (K0.out) (at_lt (K0.out)))
  replace K1 := hid (var_on hb (K1.out) (at_lt (K1.out)))
  clear hb c0 c1
  have c0 := cells_at K0.out
  have c1 := cells_at K1.out
  replace l0 := at_lt K0.out
  replace l1 := at_lt K1.out
  cases f1
  · go_wp2_with fail
    go_ret
    exact ⟨rfl, hB⟩
  by_cases ht : 50 < a2.size
  · go_wp2_with fail
    go_ret
    exact ⟨rfl, hB⟩
  have ht' : a2.size ≤ 50 := by omega
  clear ht
  go_wp2_with fail
  refine (isT_at h2.out _ W0.out).mono ?_
  rintro x w4 ⟨rfl, hb⟩
  replace hB := below_on hB hb
  replace K0 := hid (var_on hb (K0.out) (at_lt (K0.out)))
  replace K1 := hid (var_on hb (K1.out) (at_lt (K1.out)))
  clear hb c0 c1
  have c0 := cells_at K0.out
  have c1 := cells_at K1.out
  replace l0 := at_lt K0.out
  replace l1 := at_lt K1.out
  cases f2
  · go_wp2_with fail
    go_ret
    exact ⟨rfl, hB⟩
  go_wp2_with fail
  refine (isT_at h3.out _ W1.out).mono ?_
  rintro x w4 ⟨rfl, hb⟩
  replace hB := below_on hB hb
  replace K0 := hid (var_on hb (K0.out) (at_lt (K0.out)))
  replace K1 := hid (var_on hb (K1.out) (at_lt (K1.out)))
  clear hb c0 c1
  have c0 := cells_at K0.out
  have c1 := cells_at K1.out
  replace l0 := at_lt K0.out
  replace l1 := at_lt K1.out
  cases f3
  · go_wp2_with fail
    go_ret
    exact ⟨rfl, hB⟩
  obtain ⟨C, HC⟩ : ∃ C : Th, Hid ((⟨a0.id, a1.x, a1.y, a1.f0, a1.f1, a1.f2, a1.f3⟩ : Th) = C) := ⟨_, rfl⟩
  rcases e1 : diff a0 C with ⟨x, ok⟩
  have E1 := hid e1
  have mx := diff_m e1
  clear e1
  have iC : Hid (a0.id = C.id) := hid (by rw [← HC.out])
  have fitB := hid (few_fitT h1.out W1.out)
  go_upto_region 6 with fail
  obtain ⟨w5, hw5⟩ : ∃ W, W = w4.alloc a1.o := ⟨_, rfl⟩
  have K2 : Hid (w5.heap[w4.heap.size]? = some a1.o) := hid (by rw [hw5]; exact new_at _ _ _ rfl)
  replace K0 := hid (show w5.heap[w.heap.size]? = some a0.o by rw [hw5]; exact old_at K0.out _)
  replace hB : Below w.heap.size w w5 := by rw [hw5]; exact hB.alloc hB.size _
  rw [← hw5]
  clear hw5 c0 c1 K1
  have c0 := cells_at K0.out
  have c2 := cells_at K2.out
  go_cut [] from 20 (fun wx => wx.heap[w.heap.size]? = some a0.o ∧ wx.heap[w4.heap.size]? = some C.o ∧ Below w.heap.size w wx)
  case first =>
    go_wp2_with fail
    go_meet
    rw [← HC.out]
    exact ⟨set_off K0.out (by omega) _, set_at K2.out _ rfl, hB.setCell (by simp; try omega) _⟩
  case rest =>
    clear hB K0 K2 c0 c2
    obtain ⟨k0, k2, hB⟩ := hcut
    have K0 := hid k0
    have K2 := hid k2
    clear k0 k2
    have c0 := cells_at K0.out
    have c2 := cells_at K2.out
    have m0 := at_lt K0.out
    have l2 := at_lt K2.out
    clear l0 l1
    have l0 := m0
    clear m0
    go_wp2_with fail
    refine (diff_at E1 _).mono ?_
    rintro v w6 ⟨rfl, hb⟩
    replace hB := below_on hB hb
    replace K0 := hid (var_on hb (K0.out) (at_lt (K0.out)))
    replace K2 := hid (var_on hb (K2.out) (at_lt (K2.out)))
    clear hb c0 c2
    have c0 := cells_at K0.out
    have c2 := cells_at K2.out
    replace l0 := at_lt K0.out
    replace l2 := at_lt K2.out
    cases ok
    · have hac := hid (diff_no iC.out E1.out)
      have qq := equal_th_at (a := a0) (b := C) (eqT_iff.2 hac.out)
      go_wp2_with fail
      go_ret
      exact ⟨rfl, hB.alloc hB.size _⟩
    have hD := hid (back_isD (by rw [HC.out]; exact E1.out) h2.out h3.out)
    have hT := hid (back_fits (a := a0) (b := a1) (by rw [HC.out]; exact E1.out) fitB.out)
    have hid' := back_id (a := a0) (b := a1) (by rw [HC.out]; exact E1.out)
    have hap := hid (diff_apply iC.out E1.out)
    have hdi : ((x.id == a0.id) = true) := by rw [hid']; simp
    clear hid'
    obtain ⟨L, hL⟩ : ∃ L, Hid (bytesK x 4 = L) := ⟨_, rfl⟩
    have lL : L.length ≤ 200 := by
      rw [← hL.out]
      exact Nat.le_trans (bytesK_len (isD_small hD.out).2.2.2.2.2.2.2.2.1 4) (by omega)
    have hS : Hid ((⟨(bytesK x 4).toArray⟩ : ByteArray) = ⟨L.toArray⟩) := hid (by rw [hL.out])
    have hR : Hid (read ((⟨L.toArray⟩ : ByteArray) ++ a2).data.toList = (x, L.length, 0)) := hid (by
      rw [data_append, ← hL.out]
      exact read_back x hD.out (fun k => (hT.out k).2) a2.data.toList)
    have q1 := equal_th_at (a := C) (b := C) (eqT_self C)
    have q2 := equal_dl_at (a := x) (b := x) (eqD_self x)
    go_wp2_with fail
    refine (bytes_at hD hT.out hS _).mono ?_
    rintro v w7 ⟨rfl, hb⟩
    have K3 := hid (var_on (o := x.o) (g := w6.heap.size) hb (new_at _ _ _ rfl) (by simp))
    replace hB := below_on (hB.alloc hB.size _) hb
    replace K0 := hid (var_on hb (old_at K0.out _) (at_lt (old_at K0.out _)))
    replace K2 := hid (var_on hb (old_at K2.out _) (at_lt (old_at K2.out _)))
    clear hb c0 c2
    have c0 := cells_at K0.out
    have c2 := cells_at K2.out
    replace l0 := at_lt K0.out
    replace l2 := at_lt K2.out
    have c3 := cells_at K3.out
    have l3 := at_lt K3.out
    go_wp2_with fail
    refine (read_at hR (by rw [ByteArray.size_append]; show L.length + a2.size ≤ 1000000; omega) _).mono ?_
    rintro v w8 ⟨rfl, hb⟩
    replace hB := below_on hB hb
    replace K0 := hid (var_on hb (K0.out) (at_lt (K0.out)))
    replace K2 := hid (var_on hb (K2.out) (at_lt (K2.out)))
    replace K3 := hid (var_on hb (K3.out) (at_lt (K3.out)))
    clear hb c0 c2 c3
    have c0 := cells_at K0.out
    have c2 := cells_at K2.out
    have c3 := cells_at K3.out
    replace l0 := at_lt K0.out
    replace l2 := at_lt K2.out
    replace l3 := at_lt K3.out
    go_wp2_with fail
    refine (apply_at hap (by omega) _).mono ?_
    rintro v w9 ⟨rfl, hb⟩
    replace hB := below_on (hB.alloc hB.size _) hb
    replace K0 := hid (var_on hb (old_at K0.out _) (at_lt (old_at K0.out _)))
    replace K2 := hid (var_on hb (old_at K2.out _) (at_lt (old_at K2.out _)))
    replace K3 := hid (var_on hb (old_at K3.out _) (at_lt (old_at K3.out _)))
    clear hb c0 c2 c3
    have c0 := cells_at K0.out
    have c2 := cells_at K2.out
    have c3 := cells_at K3.out
    replace l0 := at_lt K0.out
    replace l2 := at_lt K2.out
    replace l3 := at_lt K3.out
    go_wp2_with fail
    refine (diff_at E1 _).mono ?_
    rintro v w10 ⟨rfl, hb⟩
    have K4 := hid (var_on (o := C.o) (g := w9.heap.size) hb (new_at _ _ _ rfl) (by simp))
    replace hB := below_on (hB.alloc hB.size _) hb
    replace K0 := hid (var_on hb (old_at K0.out _) (at_lt (old_at K0.out _)))
    replace K2 := hid (var_on hb (old_at K2.out _) (at_lt (old_at K2.out _)))
    replace K3 := hid (var_on hb (old_at K3.out _) (at_lt (old_at K3.out _)))
    clear hb c0 c2 c3
    have c0 := cells_at K0.out
    have c2 := cells_at K2.out
    have c3 := cells_at K3.out
    replace l0 := at_lt K0.out
    replace l2 := at_lt K2.out
    replace l3 := at_lt K3.out
    have c4 := cells_at K4.out
    have l4 := at_lt K4.out
    go_wp2_with fail
    refine (diff_at (hid (diff_self C)) _).mono ?_
    rintro v w11 ⟨rfl, hb⟩
    have K5 := hid (var_on (o := x.o) (g := w10.heap.size) hb (new_at _ _ _ rfl) (by simp))
    replace hB := below_on (hB.alloc hB.size _) hb
    replace K0 := hid (var_on hb (old_at K0.out _) (at_lt (old_at K0.out _)))
    replace K2 := hid (var_on hb (old_at K2.out _) (at_lt (old_at K2.out _)))
    replace K3 := hid (var_on hb (old_at K3.out _) (at_lt (old_at K3.out _)))
    replace K4 := hid (var_on hb (old_at K4.out _) (at_lt (old_at K4.out _)))
    clear hb c0 c2 c3 c4
    have c0 := cells_at K0.out
    have c2 := cells_at K2.out
    have c3 := cells_at K3.out
    have c4 := cells_at K4.out
    replace l0 := at_lt K0.out
    replace l2 := at_lt K2.out
    replace l3 := at_lt K3.out
    replace l4 := at_lt K4.out
    have c5 := cells_at K5.out
    have l5 := at_lt K5.out
    go_wp2_with fail
    go_ret
    exact ⟨by simp, hB.alloc hB.size _⟩

theorem fieldsBack_own : ownKnob Try.prog.godebug = none := by kernel_rfl
theorem fieldsBack_laidOut : laidOutB Try.prog = true := by kernel_rfl
set_option maxRecDepth 100000 in
theorem fieldsBack_lifted (os : Os) (started : os.Started) (H : Type) (enc : TypeId × Value → H) :
    ReturnsInHanded {} Try.checked os 5 .any (Rows.fieldsBackSpec.pre6 enc Try.prog Try.f5 Rows.fieldsBackRow.domain false) (Rows.fieldsBackSpec.post enc Try.prog Try.f5 false true false false) := by
  refine returnsInHanded_of_change (C := Try.checked) fieldsBack_own started (by kernel_rfl) Try.func5
    (ChangeSpec.witness6 (enc := enc) (C := Try.checked) false ⟨#[], #[.agg #[.int .i64 0, .int .i64 0, .int .i64 0, .int .i64 0, .string ByteArray.empty, .int .i64 0, .string ByteArray.empty, .int .i64 0, .string ByteArray.empty, .int .i64 0, .string ByteArray.empty], .agg #[.int .i64 0, .int .i64 0, .int .i64 0, .int .i64 0, .string ByteArray.empty, .int .i64 0, .string ByteArray.empty, .int .i64 0, .string ByteArray.empty, .int .i64 0, .string ByteArray.empty], .string ByteArray.empty], []⟩ 8 (by kernel_rfl) (by kernel_rfl) (by kernel_rfl) (by kernel_rfl)) ?_
  intro W base args ds gs before hval0 hW hcnd _
  have hval : ∀ (j : Nat) t v, Try.f5.params[j]? = some t → args[j]? = some v → Value.okWide Try.prog W .any base t v := hval0
  have hW' := hW
  obtain ⟨p, q, hA0, hV, rfl, hfz, hnd⟩ := hW
  have hA : DataW.TrodAll enc Try.prog W 0 (fun _ => true) true Try.f5.params.toList args.toList ds p := hA0
  rw [Try.params5] at hA hval
  obtain ⟨v0, vs0, d0, ds0, p0, q0, hargs, rfl, rfl, h0, r0⟩ := trodAll_cons hA
  obtain ⟨v1, vs1, d1, ds1, p1, q1, rfl, rfl, rfl, h1, r1⟩ := trodAll_cons r0
  obtain ⟨v2, vs2, d2, ds2, p2, q2, rfl, rfl, rfl, h2, r2⟩ := trodAll_cons r1
  obtain ⟨rfl, rfl, rfl⟩ := trodAll_nil r2
  obtain rfl : args = #[v0, v1, v2] := by cases args; simp_all
  obtain ⟨rfl, rfl⟩ := trodVars_none hV
  have k0 := h0
  have lt0 : ∀ x ∈ p0, x.block < W.heap.size := by obtain ⟨m, hm⟩ := k0; exact DataW.trod_lt m _ _ _ hm
  have k1 := h1
  have lt1 : ∀ x ∈ p1, x.block < W.heap.size := by obtain ⟨m, hm⟩ := k1; exact DataW.trod_lt m _ _ _ hm
  have k2 := h2
  have lt2 : ∀ x ∈ p2, x.block < W.heap.size := by obtain ⟨m, hm⟩ := k2; exact DataW.trod_lt m _ _ _ hm
  obtain ⟨a0, rfl, w0⟩ := open_th (hval 0 28 v0 rfl rfl) h0
  obtain ⟨a1, rfl, w1⟩ := open_th (hval 1 28 v1 rfl rfl) h1
  obtain ⟨a2, rfl, rfl, rfl, w2⟩ := open_string Try.underlying9 (hval 2 9 v2 rfl rfl) h2
  clear hA0 hval0
  refine (fieldsBack_walk W a0 w0 a1 w1 a2 w2).mono fun e W' ⟨he, bel⟩ => ?_
  subst he
  exact ⟨_, rfl, _, _, _, [], _, [], hW', trodAll_mk1 (shut_bool Try.underlying4 _), (trodAll_cons_mk (Below.trod fieldsBack_laidOut (by kernel_rfl) (of_decide_eq_true (by kernel_rfl)) k0 bel lt0) (trodAll_cons_mk (Below.trod fieldsBack_laidOut (by kernel_rfl) (of_decide_eq_true (by kernel_rfl)) k1 bel lt1) (trodAll_cons_mk (Below.trod fieldsBack_laidOut (by kernel_rfl) (of_decide_eq_true (by kernel_rfl)) k2 bel lt2) trodAll_mk0))), rfl, bel.frame _, fun h => by cases h⟩

theorem fieldsBack_over : Rows.fieldsBackRow.holds Try.pinned (OpenSpec.ofChange Rows.fieldsBackSpec) :=
  OpenClaim.holds_of_wide 5 Try.f5 rfl rfl rfl rfl rfl rfl rfl ⟨rfl, rfl, rfl, rfl, rfl⟩ rfl rfl rfl rfl rfl (by kernel_rfl) Try.func5 (by kernel_rfl)
    (of_decide_eq_true (by kernel_rfl)) (by unfold Func.isWrapper; first | (rw [if_pos (by decide +kernel)]; kernel_rfl) | (rw [if_neg (by decide +kernel)]; exact ⟨rfl, rfl⟩))
    (fun os started H enc _ => fieldsBack_lifted os started H enc)

theorem fieldsBack_holds : Rows.FieldsBackSaid := fieldsBack_over
#print axioms fieldsBack_holds
end Go.Proofs.Ytaokhgbkghbpmaa
