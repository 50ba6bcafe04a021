/- For every number i, every number n, every text: FieldsOne answers true: one field that is changed is one bit, and no more bytes than it needs (texts above MaxText bytes are passed over by the statement itself). -/
import Derived.Test.YtaokhgbkghbpmaaKnown6
import Derived.Test.YtaokhgbkghbpmaaFldN
import Derived.ProofKit
import Derived.OpenShut
import Derived.ShutString
import Derived.ChangeOld
import Derived.Below
import Derived.SizedLaws
namespace Go.Proofs.Ytaokhgbkghbpmaa
open Go.ChangeShapes Go.WideShapes Go.ChangeAt Go.RowKit
open Go.ChangeMaps (open_string shut_string)
set_option linter.unusedVariables false

set_option maxRecDepth 100000 in
set_option maxHeartbeats 8000000 in
theorem fieldsOne_walk (w : World) (a0 : Int) (w0 : (Lit.int .u8 a0).wf = true) (a1 : Int) (w1 : (Lit.int .i64 a1).wf = true) (a2 : ByteArray) (w2 : a2.size ≤ maxLen) : Calls Try.prog 7 #[.int .u8 a0, .int .i64 a1, .string a2] w fun e w' => e = .returned (.bool true) ∧ Below w.heap.size w w' := by
  obtain ⟨b1, b2⟩ := u8_bounds w0
  obtain ⟨n1, n2⟩ := i64_bounds w1
  clear w0 w1
  unfold maxLen at w2
  go_enter Try.func7, Try.ntmps7
  go_wp2_with fail
  refine (known_holds _).mono ?_
  rintro x w3 ⟨rfl, hb⟩
  have hB : Below w.heap.size w w3 := hb
  clear hb
  by_cases hs : 12 < a2.size
  · go_wp2_with fail
    go_ret
    exact ⟨rfl, hB⟩
  have hs' : a2.size ≤ 12 := by omega
  clear hs
  obtain hk | hk | hk | hk : a0 % 4 = 0 ∨ a0 % 4 = 1 ∨ a0 % 4 = 2 ∨ a0 % 4 = 3 := by omega
  · by_cases he : a2.data.toList = []
    · have he' : a2.toList = [] := by rw [ByteArray.toList_eq]; exact he
      clear he
      by_cases hn : a1 = 0
      · subst hn
        have q : ∀ W : World, (Op.equalIn 10000 28 (.agg #[.int .i64 7, .int .i64 1, .int .i64 2, .int .i64 0, .string ⟨#[]⟩, .int .i64 0, .string ⟨#[]⟩, .int .i64 0, .string ⟨#[]⟩, .int .i64 0, .string ⟨#[]⟩]) (.agg #[.int .i64 7, .int .i64 1, .int .i64 2, .int .i64 0, .string ⟨#[]⟩, .int .i64 0, .string ⟨#[]⟩, .int .i64 0, .string ⟨#[]⟩, .int .i64 0, .string ⟨#[]⟩])).run Try.prog W = .ok true W := fun W => equal_th_at (a := oA) (b := oA) (eqT_self oA) W
        go_wp2_with fail
        refine (diff_at (a := oA) (b := oA) (x := zD) (q := false) (hid (by kernel_rfl)) _).mono ?_
        rintro x w4 ⟨rfl, hb⟩
        have K1 := hid (var_on (o := (.cells #[.int .i64 7, .int .i64 1, .int .i64 2, .int .i64 0, .string ⟨#[]⟩, .int .i64 0, .string ⟨#[]⟩, .int .i64 0, .string ⟨#[]⟩, .int .i64 0, .string ⟨#[]⟩] 28 (0, 0) : Obj)) (g := w3.heap.size) hb (old_at (new_at _ _ _ rfl) _) (by simp; omega))
        have K2 := hid (var_on (o := (.cells #[.int .i64 7, .int .i64 1, .int .i64 2, .int .i64 0, .string ⟨#[]⟩, .int .i64 0, .string ⟨#[]⟩, .int .i64 0, .string ⟨#[]⟩, .int .i64 0, .string ⟨#[]⟩] 28 (0, 0) : Obj)) (g := w3.heap.size + 1) hb (new_at _ _ _ (by simp)) (by simp))
        replace hB := below_on ((hB.alloc hB.size _).alloc (by have := hB.size; simp; omega) _) hb
        clear hb
        have l1 := at_lt K1.out
        have l2 := at_lt K2.out
        go_wp2_with fail
        refine (fields_bytes_no _ zD k_isD0 (by decide) zD_size).mono ?_
        rintro x w5 ⟨rfl, hb⟩
        replace K1 := hid (var_on hb (old_at K1.out _) (at_lt (old_at K1.out _)))
        replace K2 := hid (var_on hb (old_at K2.out _) (at_lt (old_at K2.out _)))
        replace hB := below_on (hB.alloc hB.size _) hb
        clear hb
        have c1 := cells_at K1.out
        have c2 := cells_at K2.out
        go_wp2_with fail
        go_ret
        exact ⟨rfl, hB⟩
      · have hz : ¬ (⟨a1, ⟨#[]⟩⟩ : Fl) = zF := by intro h; apply hn; exact congrArg Fl.n h
        have hf : isF (⟨a1, ⟨#[]⟩⟩ : Fl) = true := one_isF
        have hfit : fitF (⟨a1, ⟨#[]⟩⟩ : Fl) := ⟨by simp [ByteArray.size], n1, n2⟩
        have hlen := told_num (f := (⟨a1, ⟨#[]⟩⟩ : Fl)) rfl
        clear hn
        have hD := hid (one_diff 0 (by omega) (⟨a1, ⟨#[]⟩⟩ : Fl) hz)
        have hI := hid (one_isD 0 (by omega) (⟨a1, ⟨#[]⟩⟩ : Fl) hf)
        have hT := hid (one_fit 0 (by omega) (⟨a1, ⟨#[]⟩⟩ : Fl) hfit)
        have hL := hid (one_bytes 0 (by omega) (⟨a1, ⟨#[]⟩⟩ : Fl))
        have hm : (((oD 0 (⟨a1, ⟨#[]⟩⟩ : Fl)).m : Int) != 2) = false := by show ((2 : Int) != 2) = false; decide
        obtain ⟨S, hS⟩ : ∃ S, Hid ((⟨(bytesK (oD 0 (⟨a1, ⟨#[]⟩⟩ : Fl)) 4).toArray⟩ : ByteArray) = S) := ⟨_, rfl⟩
        have hz1 : S.size = 2 + (told (⟨a1, ⟨#[]⟩⟩ : Fl)).length := by rw [← hS.out]; exact hL.out
        have hz2 : 3 ≤ S.size ∧ S.size ≤ 13 := by omega
        clear hz1 hlen hL hf hfit
        obtain ⟨hz3, hz4⟩ := hz2
        have q : ∀ W : World, (Op.equalIn 10000 28 (.agg #[.int .i64 7, .int .i64 1, .int .i64 2, .int .i64 a1, .string ⟨#[]⟩, .int .i64 0, .string ⟨#[]⟩, .int .i64 0, .string ⟨#[]⟩, .int .i64 0, .string ⟨#[]⟩]) (.agg #[.int .i64 7, .int .i64 1, .int .i64 2, .int .i64 0, .string ⟨#[]⟩, .int .i64 0, .string ⟨#[]⟩, .int .i64 0, .string ⟨#[]⟩, .int .i64 0, .string ⟨#[]⟩])).run Try.prog W = .ok false W := fun W => equal_th_at (a := oB 0 (⟨a1, ⟨#[]⟩⟩ : Fl)) (b := oA) (one_ne 0 (by omega) (⟨a1, ⟨#[]⟩⟩ : Fl) hz) W
        clear hz
        obtain ⟨D, eD⟩ : ∃ D, Hid (oD 0 (⟨a1, ⟨#[]⟩⟩ : Fl) = D) := ⟨_, rfl⟩
        rw [eD.out] at hD hI hT hS hm
        clear eD
        go_wp2_with fail
        refine (diff_at (a := oA) (b := oB 0 (⟨a1, ⟨#[]⟩⟩ : Fl)) hD _).mono ?_
        rintro x w4 ⟨rfl, hb⟩
        have K1 := hid (var_on (o := (.cells #[.int .i64 7, .int .i64 1, .int .i64 2, .int .i64 0, .string ⟨#[]⟩, .int .i64 0, .string ⟨#[]⟩, .int .i64 0, .string ⟨#[]⟩, .int .i64 0, .string ⟨#[]⟩] 28 (0, 0) : Obj)) (g := w3.heap.size) hb (old_at (new_at _ _ _ rfl) _) (by simp; omega))
        have K2 := hid (var_on (o := (.cells #[.int .i64 7, .int .i64 1, .int .i64 2, .int .i64 a1, .string ⟨#[]⟩, .int .i64 0, .string ⟨#[]⟩, .int .i64 0, .string ⟨#[]⟩, .int .i64 0, .string ⟨#[]⟩] 28 (0, 0) : Obj)) (g := w3.heap.size + 1) hb (new_at _ _ _ (by simp)) (by simp))
        replace hB := below_on ((hB.alloc hB.size _).alloc (by have := hB.size; simp; omega) _) hb
        clear hb
        have l1 := at_lt K1.out
        have l2 := at_lt K2.out
        go_wp2_with fail
        refine (bytes_at hI hT.out hS _).mono ?_
        rintro x w5 ⟨rfl, hb⟩
        have K3 := hid (var_on (o := D.o) (g := w4.heap.size) hb (new_at _ _ _ rfl) (by simp))
        replace K1 := hid (var_on hb (old_at K1.out _) (at_lt (old_at K1.out _)))
        replace K2 := hid (var_on hb (old_at K2.out _) (at_lt (old_at K2.out _)))
        replace hB := below_on (hB.alloc hB.size _) hb
        clear hb
        have c1 := cells_at K1.out
        have c2 := cells_at K2.out
        have c3 := cells_at K3.out
        go_wp2_with fail
        go_ret
        exact ⟨by simp <;> omega, hB⟩
    · have hz : ¬ (⟨0, a2⟩ : Fl) = zF := by intro h; apply he; have e := congrArg Fl.s h; have e2 : a2 = ⟨#[]⟩ := e; rw [e2]
      have hf : isF (⟨0, a2⟩ : Fl) = true := one_isFs hs'
      have hfit : fitF (⟨0, a2⟩ : Fl) := ⟨by show a2.size ≤ 1000000; omega, by show (-9223372036854775808 : Int) ≤ 0; decide, by show (0 : Int) ≤ 9223372036854775807; decide⟩
      have hlen := told_text (f := (⟨0, a2⟩ : Fl)) he hs'
      have he' : a2.toList.isEmpty = false := by rw [ByteArray.toList_eq]; simpa using he
      clear he
      have hD := hid (one_diff 0 (by omega) (⟨0, a2⟩ : Fl) hz)
      have hI := hid (one_isD 0 (by omega) (⟨0, a2⟩ : Fl) hf)
      have hT := hid (one_fit 0 (by omega) (⟨0, a2⟩ : Fl) hfit)
      have hL := hid (one_bytes 0 (by omega) (⟨0, a2⟩ : Fl))
      have hm : (((oD 0 (⟨0, a2⟩ : Fl)).m : Int) != 2) = false := by show ((2 : Int) != 2) = false; decide
      obtain ⟨S, hS⟩ : ∃ S, Hid ((⟨(bytesK (oD 0 (⟨0, a2⟩ : Fl)) 4).toArray⟩ : ByteArray) = S) := ⟨_, rfl⟩
      have hz1 : S.size = 2 + (told (⟨0, a2⟩ : Fl)).length := by rw [← hS.out]; exact hL.out
      have hz2 : S.size = 3 + a2.size := by rw [hz1, hlen]; show 2 + (1 + a2.size) = _; omega
      clear hz1 hlen hL hf hfit
      have q : ∀ W : World, (Op.equalIn 10000 28 (.agg #[.int .i64 7, .int .i64 1, .int .i64 2, .int .i64 0, .string a2, .int .i64 0, .string ⟨#[]⟩, .int .i64 0, .string ⟨#[]⟩, .int .i64 0, .string ⟨#[]⟩]) (.agg #[.int .i64 7, .int .i64 1, .int .i64 2, .int .i64 0, .string ⟨#[]⟩, .int .i64 0, .string ⟨#[]⟩, .int .i64 0, .string ⟨#[]⟩, .int .i64 0, .string ⟨#[]⟩])).run Try.prog W = .ok false W := fun W => equal_th_at (a := oB 0 (⟨0, a2⟩ : Fl)) (b := oA) (one_ne 0 (by omega) (⟨0, a2⟩ : Fl) hz) W
      clear hz
      obtain ⟨D, eD⟩ : ∃ D, Hid (oD 0 (⟨0, a2⟩ : Fl) = D) := ⟨_, rfl⟩
      rw [eD.out] at hD hI hT hS hm
      clear eD
      go_wp2_with fail
      refine (diff_at (a := oA) (b := oB 0 (⟨0, a2⟩ : Fl)) hD _).mono ?_
      rintro x w4 ⟨rfl, hb⟩
      have K1 := hid (var_on (o := (.cells #[.int .i64 7, .int .i64 1, .int .i64 2, .int .i64 0, .string ⟨#[]⟩, .int .i64 0, .string ⟨#[]⟩, .int .i64 0, .string ⟨#[]⟩, .int .i64 0, .string ⟨#[]⟩] 28 (0, 0) : Obj)) (g := w3.heap.size) hb (old_at (new_at _ _ _ rfl) _) (by simp; omega))
      have K2 := hid (var_on (o := (.cells #[.int .i64 7, .int .i64 1, .int .i64 2, .int .i64 0, .string a2, .int .i64 0, .string ⟨#[]⟩, .int .i64 0, .string ⟨#[]⟩, .int .i64 0, .string ⟨#[]⟩] 28 (0, 0) : Obj)) (g := w3.heap.size + 1) hb (new_at _ _ _ (by simp)) (by simp))
      replace hB := below_on ((hB.alloc hB.size _).alloc (by have := hB.size; simp; omega) _) hb
      clear hb
      have l1 := at_lt K1.out
      have l2 := at_lt K2.out
      go_wp2_with fail
      refine (bytes_at hI hT.out hS _).mono ?_
      rintro x w5 ⟨rfl, hb⟩
      have K3 := hid (var_on (o := D.o) (g := w4.heap.size) hb (new_at _ _ _ rfl) (by simp))
      replace K1 := hid (var_on hb (old_at K1.out _) (at_lt (old_at K1.out _)))
      replace K2 := hid (var_on hb (old_at K2.out _) (at_lt (old_at K2.out _)))
      replace hB := below_on (hB.alloc hB.size _) hb
      clear hb
      have c1 := cells_at K1.out
      have c2 := cells_at K2.out
      have c3 := cells_at K3.out
      go_wp2_with fail
      go_ret
      exact ⟨by simp <;> omega, hB⟩
  · by_cases he : a2.data.toList = []
    · have he' : a2.toList = [] := by rw [ByteArray.toList_eq]; exact he
      clear he
      by_cases hn : a1 = 0
      · subst hn
        have q : ∀ W : World, (Op.equalIn 10000 28 (.agg #[.int .i64 7, .int .i64 1, .int .i64 2, .int .i64 0, .string ⟨#[]⟩, .int .i64 0, .string ⟨#[]⟩, .int .i64 0, .string ⟨#[]⟩, .int .i64 0, .string ⟨#[]⟩]) (.agg #[.int .i64 7, .int .i64 1, .int .i64 2, .int .i64 0, .string ⟨#[]⟩, .int .i64 0, .string ⟨#[]⟩, .int .i64 0, .string ⟨#[]⟩, .int .i64 0, .string ⟨#[]⟩])).run Try.prog W = .ok true W := fun W => equal_th_at (a := oA) (b := oA) (eqT_self oA) W
        go_wp2_with fail
        refine (diff_at (a := oA) (b := oA) (x := zD) (q := false) (hid (by kernel_rfl)) _).mono ?_
        rintro x w4 ⟨rfl, hb⟩
        have K1 := hid (var_on (o := (.cells #[.int .i64 7, .int .i64 1, .int .i64 2, .int .i64 0, .string ⟨#[]⟩, .int .i64 0, .string ⟨#[]⟩, .int .i64 0, .string ⟨#[]⟩, .int .i64 0, .string ⟨#[]⟩] 28 (0, 0) : Obj)) (g := w3.heap.size) hb (old_at (new_at _ _ _ rfl) _) (by simp; omega))
        have K2 := hid (var_on (o := (.cells #[.int .i64 7, .int .i64 1, .int .i64 2, .int .i64 0, .string ⟨#[]⟩, .int .i64 0, .string ⟨#[]⟩, .int .i64 0, .string ⟨#[]⟩, .int .i64 0, .string ⟨#[]⟩] 28 (0, 0) : Obj)) (g := w3.heap.size + 1) hb (new_at _ _ _ (by simp)) (by simp))
        replace hB := below_on ((hB.alloc hB.size _).alloc (by have := hB.size; simp; omega) _) hb
        clear hb
        have l1 := at_lt K1.out
        have l2 := at_lt K2.out
        go_wp2_with fail
        refine (fields_bytes_no _ zD k_isD0 (by decide) zD_size).mono ?_
        rintro x w5 ⟨rfl, hb⟩
        replace K1 := hid (var_on hb (old_at K1.out _) (at_lt (old_at K1.out _)))
        replace K2 := hid (var_on hb (old_at K2.out _) (at_lt (old_at K2.out _)))
        replace hB := below_on (hB.alloc hB.size _) hb
        clear hb
        have c1 := cells_at K1.out
        have c2 := cells_at K2.out
        go_wp2_with fail
        go_ret
        exact ⟨rfl, hB⟩
      · have hz : ¬ (⟨a1, ⟨#[]⟩⟩ : Fl) = zF := by intro h; apply hn; exact congrArg Fl.n h
        have hf : isF (⟨a1, ⟨#[]⟩⟩ : Fl) = true := one_isF
        have hfit : fitF (⟨a1, ⟨#[]⟩⟩ : Fl) := ⟨by simp [ByteArray.size], n1, n2⟩
        have hlen := told_num (f := (⟨a1, ⟨#[]⟩⟩ : Fl)) rfl
        clear hn
        have hD := hid (one_diff 1 (by omega) (⟨a1, ⟨#[]⟩⟩ : Fl) hz)
        have hI := hid (one_isD 1 (by omega) (⟨a1, ⟨#[]⟩⟩ : Fl) hf)
        have hT := hid (one_fit 1 (by omega) (⟨a1, ⟨#[]⟩⟩ : Fl) hfit)
        have hL := hid (one_bytes 1 (by omega) (⟨a1, ⟨#[]⟩⟩ : Fl))
        have hm : (((oD 1 (⟨a1, ⟨#[]⟩⟩ : Fl)).m : Int) != 4) = false := by show ((4 : Int) != 4) = false; decide
        obtain ⟨S, hS⟩ : ∃ S, Hid ((⟨(bytesK (oD 1 (⟨a1, ⟨#[]⟩⟩ : Fl)) 4).toArray⟩ : ByteArray) = S) := ⟨_, rfl⟩
        have hz1 : S.size = 2 + (told (⟨a1, ⟨#[]⟩⟩ : Fl)).length := by rw [← hS.out]; exact hL.out
        have hz2 : 3 ≤ S.size ∧ S.size ≤ 13 := by omega
        clear hz1 hlen hL hf hfit
        obtain ⟨hz3, hz4⟩ := hz2
        have q : ∀ W : World, (Op.equalIn 10000 28 (.agg #[.int .i64 7, .int .i64 1, .int .i64 2, .int .i64 0, .string ⟨#[]⟩, .int .i64 a1, .string ⟨#[]⟩, .int .i64 0, .string ⟨#[]⟩, .int .i64 0, .string ⟨#[]⟩]) (.agg #[.int .i64 7, .int .i64 1, .int .i64 2, .int .i64 0, .string ⟨#[]⟩, .int .i64 0, .string ⟨#[]⟩, .int .i64 0, .string ⟨#[]⟩, .int .i64 0, .string ⟨#[]⟩])).run Try.prog W = .ok false W := fun W => equal_th_at (a := oB 1 (⟨a1, ⟨#[]⟩⟩ : Fl)) (b := oA) (one_ne 1 (by omega) (⟨a1, ⟨#[]⟩⟩ : Fl) hz) W
        clear hz
        obtain ⟨D, eD⟩ : ∃ D, Hid (oD 1 (⟨a1, ⟨#[]⟩⟩ : Fl) = D) := ⟨_, rfl⟩
        rw [eD.out] at hD hI hT hS hm
        clear eD
        go_wp2_with fail
        refine (diff_at (a := oA) (b := oB 1 (⟨a1, ⟨#[]⟩⟩ : Fl)) hD _).mono ?_
        rintro x w4 ⟨rfl, hb⟩
        have K1 := hid (var_on (o := (.cells #[.int .i64 7, .int .i64 1, .int .i64 2, .int .i64 0, .string ⟨#[]⟩, .int .i64 0, .string ⟨#[]⟩, .int .i64 0, .string ⟨#[]⟩, .int .i64 0, .string ⟨#[]⟩] 28 (0, 0) : Obj)) (g := w3.heap.size) hb (old_at (new_at _ _ _ rfl) _) (by simp; omega))
        have K2 := hid (var_on (o := (.cells #[.int .i64 7, .int .i64 1, .int .i64 2, .int .i64 0, .string ⟨#[]⟩, .int .i64 a1, .string ⟨#[]⟩, .int .i64 0, .string ⟨#[]⟩, .int .i64 0, .string ⟨#[]⟩] 28 (0, 0) : Obj)) (g := w3.heap.size + 1) hb (new_at _ _ _ (by simp)) (by simp))
        replace hB := below_on ((hB.alloc hB.size _).alloc (by have := hB.size; simp; omega) _) hb
        clear hb
        have l1 := at_lt K1.out
        have l2 := at_lt K2.out
        go_wp2_with fail
        refine (bytes_at hI hT.out hS _).mono ?_
        rintro x w5 ⟨rfl, hb⟩
        have K3 := hid (var_on (o := D.o) (g := w4.heap.size) hb (new_at _ _ _ rfl) (by simp))
        replace K1 := hid (var_on hb (old_at K1.out _) (at_lt (old_at K1.out _)))
        replace K2 := hid (var_on hb (old_at K2.out _) (at_lt (old_at K2.out _)))
        replace hB := below_on (hB.alloc hB.size _) hb
        clear hb
        have c1 := cells_at K1.out
        have c2 := cells_at K2.out
        have c3 := cells_at K3.out
        go_wp2_with fail
        go_ret
        exact ⟨by simp <;> omega, hB⟩
    · have hz : ¬ (⟨0, a2⟩ : Fl) = zF := by intro h; apply he; have e := congrArg Fl.s h; have e2 : a2 = ⟨#[]⟩ := e; rw [e2]
      have hf : isF (⟨0, a2⟩ : Fl) = true := one_isFs hs'
      have hfit : fitF (⟨0, a2⟩ : Fl) := ⟨by show a2.size ≤ 1000000; omega, by show (-9223372036854775808 : Int) ≤ 0; decide, by show (0 : Int) ≤ 9223372036854775807; decide⟩
      have hlen := told_text (f := (⟨0, a2⟩ : Fl)) he hs'
      have he' : a2.toList.isEmpty = false := by rw [ByteArray.toList_eq]; simpa using he
      clear he
      have hD := hid (one_diff 1 (by omega) (⟨0, a2⟩ : Fl) hz)
      have hI := hid (one_isD 1 (by omega) (⟨0, a2⟩ : Fl) hf)
      have hT := hid (one_fit 1 (by omega) (⟨0, a2⟩ : Fl) hfit)
      have hL := hid (one_bytes 1 (by omega) (⟨0, a2⟩ : Fl))
      have hm : (((oD 1 (⟨0, a2⟩ : Fl)).m : Int) != 4) = false := by show ((4 : Int) != 4) = false; decide
      obtain ⟨S, hS⟩ : ∃ S, Hid ((⟨(bytesK (oD 1 (⟨0, a2⟩ : Fl)) 4).toArray⟩ : ByteArray) = S) := ⟨_, rfl⟩
      have hz1 : S.size = 2 + (told (⟨0, a2⟩ : Fl)).length := by rw [← hS.out]; exact hL.out
      have hz2 : S.size = 3 + a2.size := by rw [hz1, hlen]; show 2 + (1 + a2.size) = _; omega
      clear hz1 hlen hL hf hfit
      have q : ∀ W : World, (Op.equalIn 10000 28 (.agg #[.int .i64 7, .int .i64 1, .int .i64 2, .int .i64 0, .string ⟨#[]⟩, .int .i64 0, .string a2, .int .i64 0, .string ⟨#[]⟩, .int .i64 0, .string ⟨#[]⟩]) (.agg #[.int .i64 7, .int .i64 1, .int .i64 2, .int .i64 0, .string ⟨#[]⟩, .int .i64 0, .string ⟨#[]⟩, .int .i64 0, .string ⟨#[]⟩, .int .i64 0, .string ⟨#[]⟩])).run Try.prog W = .ok false W := fun W => equal_th_at (a := oB 1 (⟨0, a2⟩ : Fl)) (b := oA) (one_ne 1 (by omega) (⟨0, a2⟩ : Fl) hz) W
      clear hz
      obtain ⟨D, eD⟩ : ∃ D, Hid (oD 1 (⟨0, a2⟩ : Fl) = D) := ⟨_, rfl⟩
      rw [eD.out] at hD hI hT hS hm
      clear eD
      go_wp2_with fail
      refine (diff_at (a := oA) (b := oB 1 (⟨0, a2⟩ : Fl)) hD _).mono ?_
      rintro x w4 ⟨rfl, hb⟩
      have K1 := hid (var_on (o := (.cells #[.int .i64 7, .int .i64 1, .int .i64 2, .int .i64 0, .string ⟨#[]⟩, .int .i64 0, .string ⟨#[]⟩, .int .i64 0, .string ⟨#[]⟩, .int .i64 0, .string ⟨#[]⟩] 28 (0, 0) : Obj)) (g := w3.heap.size) hb (old_at (new_at _ _ _ rfl) _) (by simp; omega))
      have K2 := hid (var_on (o := (.cells #[.int .i64 7, .int .i64 1, .int .i64 2, .int .i64 0, .string ⟨#[]⟩, .int .i64 0, .string a2, .int .i64 0, .string ⟨#[]⟩, .int .i64 0, .string ⟨#[]⟩] 28 (0, 0) : Obj)) (g := w3.heap.size + 1) hb (new_at _ _ _ (by simp)) (by simp))
      replace hB := below_on ((hB.alloc hB.size _).alloc (by have := hB.size; simp; omega) _) hb
      clear hb
      have l1 := at_lt K1.out
      have l2 := at_lt K2.out
      go_wp2_with fail
      refine (bytes_at hI hT.out hS _).mono ?_
      rintro x w5 ⟨rfl, hb⟩
      have K3 := hid (var_on (o := D.o) (g := w4.heap.size) hb (new_at _ _ _ rfl) (by simp))
      replace K1 := hid (var_on hb (old_at K1.out _) (at_lt (old_at K1.out _)))
      replace K2 := hid (var_on hb (old_at K2.out _) (at_lt (old_at K2.out _)))
      replace hB := below_on (hB.alloc hB.size _) hb
      clear hb
      have c1 := cells_at K1.out
      have c2 := cells_at K2.out
      have c3 := cells_at K3.out
      go_wp2_with fail
      go_ret
      exact ⟨by simp <;> omega, hB⟩
  · by_cases he : a2.data.toList = []
    · have he' : a2.toList = [] := by rw [ByteArray.toList_eq]; exact he
      clear he
      by_cases hn : a1 = 0
      · subst hn
        have q : ∀ W : World, (Op.equalIn 10000 28 (.agg #[.int .i64 7, .int .i64 1, .int .i64 2, .int .i64 0, .string ⟨#[]⟩, .int .i64 0, .string ⟨#[]⟩, .int .i64 0, .string ⟨#[]⟩, .int .i64 0, .string ⟨#[]⟩]) (.agg #[.int .i64 7, .int .i64 1, .int .i64 2, .int .i64 0, .string ⟨#[]⟩, .int .i64 0, .string ⟨#[]⟩, .int .i64 0, .string ⟨#[]⟩, .int .i64 0, .string ⟨#[]⟩])).run Try.prog W = .ok true W := fun W => equal_th_at (a := oA) (b := oA) (eqT_self oA) W
        go_wp2_with fail
        refine (diff_at (a := oA) (b := oA) (x := zD) (q := false) (hid (by kernel_rfl)) _).mono ?_
        rintro x w4 ⟨rfl, hb⟩
        have K1 := hid (var_on (o := (.cells #[.int .i64 7, .int .i64 1, .int .i64 2, .int .i64 0, .string ⟨#[]⟩, .int .i64 0, .string ⟨#[]⟩, .int .i64 0, .string ⟨#[]⟩, .int .i64 0, .string ⟨#[]⟩] 28 (0, 0) : Obj)) (g := w3.heap.size) hb (old_at (new_at _ _ _ rfl) _) (by simp; omega))
        have K2 := hid (var_on (o := (.cells #[.int .i64 7, .int .i64 1, .int .i64 2, .int .i64 0, .string ⟨#[]⟩, .int .i64 0, .string ⟨#[]⟩, .int .i64 0, .string ⟨#[]⟩, .int .i64 0, .string ⟨#[]⟩] 28 (0, 0) : Obj)) (g := w3.heap.size + 1) hb (new_at _ _ _ (by simp)) (by simp))
        replace hB := below_on ((hB.alloc hB.size _).alloc (by have := hB.size; simp; omega) _) hb
        clear hb
        have l1 := at_lt K1.out
        have l2 := at_lt K2.out
        go_wp2_with fail
        refine (fields_bytes_no _ zD k_isD0 (by decide) zD_size).mono ?_
        rintro x w5 ⟨rfl, hb⟩
        replace K1 := hid (var_on hb (old_at K1.out _) (at_lt (old_at K1.out _)))
        replace K2 := hid (var_on hb (old_at K2.out _) (at_lt (old_at K2.out _)))
        replace hB := below_on (hB.alloc hB.size _) hb
        clear hb
        have c1 := cells_at K1.out
        have c2 := cells_at K2.out
        go_wp2_with fail
        go_ret
        exact ⟨rfl, hB⟩
      · have hz : ¬ (⟨a1, ⟨#[]⟩⟩ : Fl) = zF := by intro h; apply hn; exact congrArg Fl.n h
        have hf : isF (⟨a1, ⟨#[]⟩⟩ : Fl) = true := one_isF
        have hfit : fitF (⟨a1, ⟨#[]⟩⟩ : Fl) := ⟨by simp [ByteArray.size], n1, n2⟩
        have hlen := told_num (f := (⟨a1, ⟨#[]⟩⟩ : Fl)) rfl
        clear hn
        have hD := hid (one_diff 2 (by omega) (⟨a1, ⟨#[]⟩⟩ : Fl) hz)
        have hI := hid (one_isD 2 (by omega) (⟨a1, ⟨#[]⟩⟩ : Fl) hf)
        have hT := hid (one_fit 2 (by omega) (⟨a1, ⟨#[]⟩⟩ : Fl) hfit)
        have hL := hid (one_bytes 2 (by omega) (⟨a1, ⟨#[]⟩⟩ : Fl))
        have hm : (((oD 2 (⟨a1, ⟨#[]⟩⟩ : Fl)).m : Int) != 8) = false := by show ((8 : Int) != 8) = false; decide
        obtain ⟨S, hS⟩ : ∃ S, Hid ((⟨(bytesK (oD 2 (⟨a1, ⟨#[]⟩⟩ : Fl)) 4).toArray⟩ : ByteArray) = S) := ⟨_, rfl⟩
        have hz1 : S.size = 2 + (told (⟨a1, ⟨#[]⟩⟩ : Fl)).length := by rw [← hS.out]; exact hL.out
        have hz2 : 3 ≤ S.size ∧ S.size ≤ 13 := by omega
        clear hz1 hlen hL hf hfit
        obtain ⟨hz3, hz4⟩ := hz2
        have q : ∀ W : World, (Op.equalIn 10000 28 (.agg #[.int .i64 7, .int .i64 1, .int .i64 2, .int .i64 0, .string ⟨#[]⟩, .int .i64 0, .string ⟨#[]⟩, .int .i64 a1, .string ⟨#[]⟩, .int .i64 0, .string ⟨#[]⟩]) (.agg #[.int .i64 7, .int .i64 1, .int .i64 2, .int .i64 0, .string ⟨#[]⟩, .int .i64 0, .string ⟨#[]⟩, .int .i64 0, .string ⟨#[]⟩, .int .i64 0, .string ⟨#[]⟩])).run Try.prog W = .ok false W := fun W => equal_th_at (a := oB 2 (⟨a1, ⟨#[]⟩⟩ : Fl)) (b := oA) (one_ne 2 (by omega) (⟨a1, ⟨#[]⟩⟩ : Fl) hz) W
        clear hz
        obtain ⟨D, eD⟩ : ∃ D, Hid (oD 2 (⟨a1, ⟨#[]⟩⟩ : Fl) = D) := ⟨_, rfl⟩
        rw [eD.out] at hD hI hT hS hm
        clear eD
        go_wp2_with fail
        refine (diff_at (a := oA) (b := oB 2 (⟨a1, ⟨#[]⟩⟩ : Fl)) hD _).mono ?_
        rintro x w4 ⟨rfl, hb⟩
        have K1 := hid (var_on (o := (.cells #[.int .i64 7, .int .i64 1, .int .i64 2, .int .i64 0, .string ⟨#[]⟩, .int .i64 0, .string ⟨#[]⟩, .int .i64 0, .string ⟨#[]⟩, .int .i64 0, .string ⟨#[]⟩] 28 (0, 0) : Obj)) (g := w3.heap.size) hb (old_at (new_at _ _ _ rfl) _) (by simp; omega))
        have K2 := hid (var_on (o := (.cells #[.int .i64 7, .int .i64 1, .int .i64 2, .int .i64 0, .string ⟨#[]⟩, .int .i64 0, .string ⟨#[]⟩, .int .i64 a1, .string ⟨#[]⟩, .int .i64 0, .string ⟨#[]⟩] 28 (0, 0) : Obj)) (g := w3.heap.size + 1) hb (new_at _ _ _ (by simp)) (by simp))
        replace hB := below_on ((hB.alloc hB.size _).alloc (by have := hB.size; simp; omega) _) hb
        clear hb
        have l1 := at_lt K1.out
        have l2 := at_lt K2.out
        go_wp2_with fail
        refine (bytes_at hI hT.out hS _).mono ?_
        rintro x w5 ⟨rfl, hb⟩
        have K3 := hid (var_on (o := D.o) (g := w4.heap.size) hb (new_at _ _ _ rfl) (by simp))
        replace K1 := hid (var_on hb (old_at K1.out _) (at_lt (old_at K1.out _)))
        replace K2 := hid (var_on hb (old_at K2.out _) (at_lt (old_at K2.out _)))
        replace hB := below_on (hB.alloc hB.size _) hb
        clear hb
        have c1 := cells_at K1.out
        have c2 := cells_at K2.out
        have c3 := cells_at K3.out
        go_wp2_with fail
        go_ret
        exact ⟨by simp <;> omega, hB⟩
    · have hz : ¬ (⟨0, a2⟩ : Fl) = zF := by intro h; apply he; have e := congrArg Fl.s h; have e2 : a2 = ⟨#[]⟩ := e; rw [e2]
      have hf : isF (⟨0, a2⟩ : Fl) = true := one_isFs hs'
      have hfit : fitF (⟨0, a2⟩ : Fl) := ⟨by show a2.size ≤ 1000000; omega, by show (-9223372036854775808 : Int) ≤ 0; decide, by show (0 : Int) ≤ 9223372036854775807; decide⟩
      have hlen := told_text (f := (⟨0, a2⟩ : Fl)) he hs'
      have he' : a2.toList.isEmpty = false := by rw [ByteArray.toList_eq]; simpa using he
      clear he
      have hD := hid (one_diff 2 (by omega) (⟨0, a2⟩ : Fl) hz)
      have hI := hid (one_isD 2 (by omega) (⟨0, a2⟩ : Fl) hf)
      have hT := hid (one_fit 2 (by omega) (⟨0, a2⟩ : Fl) hfit)
      have hL := hid (one_bytes 2 (by omega) (⟨0, a2⟩ : Fl))
      have hm : (((oD 2 (⟨0, a2⟩ : Fl)).m : Int) != 8) = false := by show ((8 : Int) != 8) = false; decide
      obtain ⟨S, hS⟩ : ∃ S, Hid ((⟨(bytesK (oD 2 (⟨0, a2⟩ : Fl)) 4).toArray⟩ : ByteArray) = S) := ⟨_, rfl⟩
      have hz1 : S.size = 2 + (told (⟨0, a2⟩ : Fl)).length := by rw [← hS.out]; exact hL.out
      have hz2 : S.size = 3 + a2.size := by rw [hz1, hlen]; show 2 + (1 + a2.size) = _; omega
      clear hz1 hlen hL hf hfit
      have q : ∀ W : World, (Op.equalIn 10000 28 (.agg #[.int .i64 7, .int .i64 1, .int .i64 2, .int .i64 0, .string ⟨#[]⟩, .int .i64 0, .string ⟨#[]⟩, .int .i64 0, .string a2, .int .i64 0, .string ⟨#[]⟩]) (.agg #[.int .i64 7, .int .i64 1, .int .i64 2, .int .i64 0, .string ⟨#[]⟩, .int .i64 0, .string ⟨#[]⟩, .int .i64 0, .string ⟨#[]⟩, .int .i64 0, .string ⟨#[]⟩])).run Try.prog W = .ok false W := fun W => equal_th_at (a := oB 2 (⟨0, a2⟩ : Fl)) (b := oA) (one_ne 2 (by omega) (⟨0, a2⟩ : Fl) hz) W
      clear hz
      obtain ⟨D, eD⟩ : ∃ D, Hid (oD 2 (⟨0, a2⟩ : Fl) = D) := ⟨_, rfl⟩
      rw [eD.out] at hD hI hT hS hm
      clear eD
      go_wp2_with fail
      refine (diff_at (a := oA) (b := oB 2 (⟨0, a2⟩ : Fl)) hD _).mono ?_
      rintro x w4 ⟨rfl, hb⟩
      have K1 := hid (var_on (o := (.cells #[.int .i64 7, .int .i64 1, .int .i64 2, .int .i64 0, .string ⟨#[]⟩, .int .i64 0, .string ⟨#[]⟩, .int .i64 0, .string ⟨#[]⟩, .int .i64 0, .string ⟨#[]⟩] 28 (0, 0) : Obj)) (g := w3.heap.size) hb (old_at (new_at _ _ _ rfl) _) (by simp; omega))
      have K2 := hid (var_on (o := (.cells #[.int .i64 7, .int .i64 1, .int .i64 2, .int .i64 0, .string ⟨#[]⟩, .int .i64 0, .string ⟨#[]⟩, .int .i64 0, .string a2, .int .i64 0, .string ⟨#[]⟩] 28 (0, 0) : Obj)) (g := w3.heap.size + 1) hb (new_at _ _ _ (by simp)) (by simp))
      replace hB := below_on ((hB.alloc hB.size _).alloc (by have := hB.size; simp; omega) _) hb
      clear hb
      have l1 := at_lt K1.out
      have l2 := at_lt K2.out
      go_wp2_with fail
      refine (bytes_at hI hT.out hS _).mono ?_
      rintro x w5 ⟨rfl, hb⟩
      have K3 := hid (var_on (o := D.o) (g := w4.heap.size) hb (new_at _ _ _ rfl) (by simp))
      replace K1 := hid (var_on hb (old_at K1.out _) (at_lt (old_at K1.out _)))
      replace K2 := hid (var_on hb (old_at K2.out _) (at_lt (old_at K2.out _)))
      replace hB := below_on (hB.alloc hB.size _) hb
      clear hb
      have c1 := cells_at K1.out
      have c2 := cells_at K2.out
      have c3 := cells_at K3.out
      go_wp2_with fail
      go_ret
      exact ⟨by simp <;> omega, hB⟩
  · by_cases he : a2.data.toList = []
    · have he' : a2.toList = [] := by rw [ByteArray.toList_eq]; exact he
      clear he
      by_cases hn : a1 = 0
      · subst hn
        have q : ∀ W : World, (Op.equalIn 10000 28 (.agg #[.int .i64 7, .int .i64 1, .int .i64 2, .int .i64 0, .string ⟨#[]⟩, .int .i64 0, .string ⟨#[]⟩, .int .i64 0, .string ⟨#[]⟩, .int .i64 0, .string ⟨#[]⟩]) (.agg #[.int .i64 7, .int .i64 1, .int .i64 2, .int .i64 0, .string ⟨#[]⟩, .int .i64 0, .string ⟨#[]⟩, .int .i64 0, .string ⟨#[]⟩, .int .i64 0, .string ⟨#[]⟩])).run Try.prog W = .ok true W := fun W => equal_th_at (a := oA) (b := oA) (eqT_self oA) W
        go_wp2_with fail
        refine (diff_at (a := oA) (b := oA) (x := zD) (q := false) (hid (by kernel_rfl)) _).mono ?_
        rintro x w4 ⟨rfl, hb⟩
        have K1 := hid (var_on (o := (.cells #[.int .i64 7, .int .i64 1, .int .i64 2, .int .i64 0, .string ⟨#[]⟩, .int .i64 0, .string ⟨#[]⟩, .int .i64 0, .string ⟨#[]⟩, .int .i64 0, .string ⟨#[]⟩] 28 (0, 0) : Obj)) (g := w3.heap.size) hb (old_at (new_at _ _ _ rfl) _) (by simp; omega))
        have K2 := hid (var_on (o := (.cells #[.int .i64 7, .int .i64 1, .int .i64 2, .int .i64 0, .string ⟨#[]⟩, .int .i64 0, .string ⟨#[]⟩, .int .i64 0, .string ⟨#[]⟩, .int .i64 0, .string ⟨#[]⟩] 28 (0, 0) : Obj)) (g := w3.heap.size + 1) hb (new_at _ _ _ (by simp)) (by simp))
        replace hB := below_on ((hB.alloc hB.size _).alloc (by have := hB.size; simp; omega) _) hb
        clear hb
        have l1 := at_lt K1.out
        have l2 := at_lt K2.out
        go_wp2_with fail
        refine (fields_bytes_no _ zD k_isD0 (by decide) zD_size).mono ?_
        rintro x w5 ⟨rfl, hb⟩
        replace K1 := hid (var_on hb (old_at K1.out _) (at_lt (old_at K1.out _)))
        replace K2 := hid (var_on hb (old_at K2.out _) (at_lt (old_at K2.out _)))
        replace hB := below_on (hB.alloc hB.size _) hb
        clear hb
        have c1 := cells_at K1.out
        have c2 := cells_at K2.out
        go_wp2_with fail
        go_ret
        exact ⟨rfl, hB⟩
      · have hz : ¬ (⟨a1, ⟨#[]⟩⟩ : Fl) = zF := by intro h; apply hn; exact congrArg Fl.n h
        have hf : isF (⟨a1, ⟨#[]⟩⟩ : Fl) = true := one_isF
        have hfit : fitF (⟨a1, ⟨#[]⟩⟩ : Fl) := ⟨by simp [ByteArray.size], n1, n2⟩
        have hlen := told_num (f := (⟨a1, ⟨#[]⟩⟩ : Fl)) rfl
        clear hn
        have hD := hid (one_diff 3 (by omega) (⟨a1, ⟨#[]⟩⟩ : Fl) hz)
        have hI := hid (one_isD 3 (by omega) (⟨a1, ⟨#[]⟩⟩ : Fl) hf)
        have hT := hid (one_fit 3 (by omega) (⟨a1, ⟨#[]⟩⟩ : Fl) hfit)
        have hL := hid (one_bytes 3 (by omega) (⟨a1, ⟨#[]⟩⟩ : Fl))
        have hm : (((oD 3 (⟨a1, ⟨#[]⟩⟩ : Fl)).m : Int) != 16) = false := by show ((16 : Int) != 16) = false; decide
        obtain ⟨S, hS⟩ : ∃ S, Hid ((⟨(bytesK (oD 3 (⟨a1, ⟨#[]⟩⟩ : Fl)) 4).toArray⟩ : ByteArray) = S) := ⟨_, rfl⟩
        have hz1 : S.size = 2 + (told (⟨a1, ⟨#[]⟩⟩ : Fl)).length := by rw [← hS.out]; exact hL.out
        have hz2 : 3 ≤ S.size ∧ S.size ≤ 13 := by omega
        clear hz1 hlen hL hf hfit
        obtain ⟨hz3, hz4⟩ := hz2
        have q : ∀ W : World, (Op.equalIn 10000 28 (.agg #[.int .i64 7, .int .i64 1, .int .i64 2, .int .i64 0, .string ⟨#[]⟩, .int .i64 0, .string ⟨#[]⟩, .int .i64 0, .string ⟨#[]⟩, .int .i64 a1, .string ⟨#[]⟩]) (.agg #[.int .i64 7, .int .i64 1, .int .i64 2, .int .i64 0, .string ⟨#[]⟩, .int .i64 0, .string ⟨#[]⟩, .int .i64 0, .string ⟨#[]⟩, .int .i64 0, .string ⟨#[]⟩])).run Try.prog W = .ok false W := fun W => equal_th_at (a := oB 3 (⟨a1, ⟨#[]⟩⟩ : Fl)) (b := oA) (one_ne 3 (by omega) (⟨a1, ⟨#[]⟩⟩ : Fl) hz) W
        clear hz
        obtain ⟨D, eD⟩ : ∃ D, Hid (oD 3 (⟨a1, ⟨#[]⟩⟩ : Fl) = D) := ⟨_, rfl⟩
        rw [eD.out] at hD hI hT hS hm
        clear eD
        go_wp2_with fail
        refine (diff_at (a := oA) (b := oB 3 (⟨a1, ⟨#[]⟩⟩ : Fl)) hD _).mono ?_
        rintro x w4 ⟨rfl, hb⟩
        have K1 := hid (var_on (o := (.cells #[.int .i64 7, .int .i64 1, .int .i64 2, .int .i64 0, .string ⟨#[]⟩, .int .i64 0, .string ⟨#[]⟩, .int .i64 0, .string ⟨#[]⟩, .int .i64 0, .string ⟨#[]⟩] 28 (0, 0) : Obj)) (g := w3.heap.size) hb (old_at (new_at _ _ _ rfl) _) (by simp; omega))
        have K2 := hid (var_on (o := (.cells #[.int .i64 7, .int .i64 1, .int .i64 2, .int .i64 0, .string ⟨#[]⟩, .int .i64 0, .string ⟨#[]⟩, .int .i64 0, .string ⟨#[]⟩, .int .i64 a1, .string ⟨#[]⟩] 28 (0, 0) : Obj)) (g := w3.heap.size + 1) hb (new_at _ _ _ (by simp)) (by simp))
        replace hB := below_on ((hB.alloc hB.size _).alloc (by have := hB.size; simp; omega) _) hb
        clear hb
        have l1 := at_lt K1.out
        have l2 := at_lt K2.out
        go_wp2_with fail
        refine (bytes_at hI hT.out hS _).mono ?_
        rintro x w5 ⟨rfl, hb⟩
        have K3 := hid (var_on (o := D.o) (g := w4.heap.size) hb (new_at _ _ _ rfl) (by simp))
        replace K1 := hid (var_on hb (old_at K1.out _) (at_lt (old_at K1.out _)))
        replace K2 := hid (var_on hb (old_at K2.out _) (at_lt (old_at K2.out _)))
        replace hB := below_on (hB.alloc hB.size _) hb
        clear hb
        have c1 := cells_at K1.out
        have c2 := cells_at K2.out
        have c3 := cells_at K3.out
        go_wp2_with fail
        go_ret
        exact ⟨by simp <;> omega, hB⟩
    · have hz : ¬ (⟨0, a2⟩ : Fl) = zF := by intro h; apply he; have e := congrArg Fl.s h; have e2 : a2 = ⟨#[]⟩ := e; rw [e2]
      have hf : isF (⟨0, a2⟩ : Fl) = true := one_isFs hs'
      have hfit : fitF (⟨0, a2⟩ : Fl) := ⟨by show a2.size ≤ 1000000; omega, by show (-9223372036854775808 : Int) ≤ 0; decide, by show (0 : Int) ≤ 9223372036854775807; decide⟩
      have hlen := told_text (f := (⟨0, a2⟩ : Fl)) he hs'
      have he' : a2.toList.isEmpty = false := by rw [ByteArray.toList_eq]; simpa using he
      clear he
      have hD := hid (one_diff 3 (by omega) (⟨0, a2⟩ : Fl) hz)
      have hI := hid (one_isD 3 (by omega) (⟨0, a2⟩ : Fl) hf)
      have hT := hid (one_fit 3 (by omega) (⟨0, a2⟩ : Fl) hfit)
      have hL := hid (one_bytes 3 (by omega) (⟨0, a2⟩ : Fl))
      have hm : (((oD 3 (⟨0, a2⟩ : Fl)).m : Int) != 16) = false := by show ((16 : Int) != 16) = false; decide
      obtain ⟨S, hS⟩ : ∃ S, Hid ((⟨(bytesK (oD 3 (⟨0, a2⟩ : Fl)) 4).toArray⟩ : ByteArray) = S) := ⟨_, rfl⟩
      have hz1 : S.size = 2 + (told (⟨0, a2⟩ : Fl)).length := by rw [← hS.out]; exact hL.out
      have hz2 : S.size = 3 + a2.size := by rw [hz1, hlen]; show 2 + (1 + a2.size) = _; omega
      clear hz1 hlen hL hf hfit
      have q : ∀ W : World, (Op.equalIn 10000 28 (.agg #[.int .i64 7, .int .i64 1, .int .i64 2, .int .i64 0, .string ⟨#[]⟩, .int .i64 0, .string ⟨#[]⟩, .int .i64 0, .string ⟨#[]⟩, .int .i64 0, .string a2]) (.agg #[.int .i64 7, .int .i64 1, .int .i64 2, .int .i64 0, .string ⟨#[]⟩, .int .i64 0, .string ⟨#[]⟩, .int .i64 0, .string ⟨#[]⟩, .int .i64 0, .string ⟨#[]⟩])).run Try.prog W = .ok false W := fun W => equal_th_at (a := oB 3 (⟨0, a2⟩ : Fl)) (b := oA) (one_ne 3 (by omega) (⟨0, a2⟩ : Fl) hz) W
      clear hz
      obtain ⟨D, eD⟩ : ∃ D, Hid (oD 3 (⟨0, a2⟩ : Fl) = D) := ⟨_, rfl⟩
      rw [eD.out] at hD hI hT hS hm
      clear eD
      go_wp2_with fail
      refine (diff_at (a := oA) (b := oB 3 (⟨0, a2⟩ : Fl)) hD _).mono ?_
      rintro x w4 ⟨rfl, hb⟩
      have K1 := hid (var_on (o := (.cells #[.int .i64 7, .int .i64 1, .int .i64 2, .int .i64 0, .string ⟨#[]⟩, .int .i64 0, .string ⟨#[]⟩, .int .i64 0, .string ⟨#[]⟩, .int .i64 0, .string ⟨#[]⟩] 28 (0, 0) : Obj)) (g := w3.heap.size) hb (old_at (new_at _ _ _ rfl) _) (by simp; omega))
      have K2 := hid (var_on (o := (.cells #[.int .i64 7, .int .i64 1, .int .i64 2, .int .i64 0, .string ⟨#[]⟩, .int .i64 0, .string ⟨#[]⟩, .int .i64 0, .string ⟨#[]⟩, .int .i64 0, .string a2] 28 (0, 0) : Obj)) (g := w3.heap.size + 1) hb (new_at _ _ _ (by simp)) (by simp))
      replace hB := below_on ((hB.alloc hB.size _).alloc (by have := hB.size; simp; omega) _) hb
      clear hb
      have l1 := at_lt K1.out
      have l2 := at_lt K2.out
      go_wp2_with fail
      refine (bytes_at hI hT.out hS _).mono ?_
      rintro x w5 ⟨rfl, hb⟩
      have K3 := hid (var_on (o := D.o) (g := w4.heap.size) hb (new_at _ _ _ rfl) (by simp))
      replace K1 := hid (var_on hb (old_at K1.out _) (at_lt (old_at K1.out _)))
      replace K2 := hid (var_on hb (old_at K2.out _) (at_lt (old_at K2.out _)))
      replace hB := below_on (hB.alloc hB.size _) hb
      clear hb
      have c1 := cells_at K1.out
      have c2 := cells_at K2.out
      have c3 := cells_at K3.out
      go_wp2_with fail
      go_ret
      exact ⟨by simp <;> omega, hB⟩

theorem fieldsOne_own : ownKnob Try.prog.godebug = none := by kernel_rfl
theorem fieldsOne_laidOut : laidOutB Try.prog = true := by kernel_rfl
set_option maxRecDepth 100000 in
theorem fieldsOne_lifted (os : Os) (started : os.Started) (H : Type) (enc : TypeId × Value → H) :
    ReturnsInHanded {} Try.checked os 7 .any (Rows.fieldsOneSpec.pre6 enc Try.prog Try.f7 Rows.fieldsOneRow.domain false) (Rows.fieldsOneSpec.post enc Try.prog Try.f7 false true false false) := by
  refine returnsInHanded_of_change (C := Try.checked) fieldsOne_own started (by kernel_rfl) Try.func7
    (ChangeSpec.witness6 (enc := enc) (C := Try.checked) false ⟨#[], #[.int .u8 0, .int .i64 0, .string ByteArray.empty], []⟩ 8 (by kernel_rfl) (by kernel_rfl) (by kernel_rfl) (by kernel_rfl)) ?_
  intro W base args ds gs before hval0 hW hcnd _
  have hval : ∀ (j : Nat) t v, Try.f7.params[j]? = some t → args[j]? = some v → Value.okWide Try.prog W .any base t v := hval0
  have hW' := hW
  obtain ⟨p, q, hA0, hV, rfl, hfz, hnd⟩ := hW
  have hA : DataW.TrodAll enc Try.prog W 0 (fun _ => true) true Try.f7.params.toList args.toList ds p := hA0
  rw [Try.params7] at hA hval
  obtain ⟨v0, vs0, d0, ds0, p0, q0, hargs, rfl, rfl, h0, r0⟩ := trodAll_cons hA
  obtain ⟨v1, vs1, d1, ds1, p1, q1, rfl, rfl, rfl, h1, r1⟩ := trodAll_cons r0
  obtain ⟨v2, vs2, d2, ds2, p2, q2, rfl, rfl, rfl, h2, r2⟩ := trodAll_cons r1
  obtain ⟨rfl, rfl, rfl⟩ := trodAll_nil r2
  obtain rfl : args = #[v0, v1, v2] := by cases args; simp_all
  obtain ⟨rfl, rfl⟩ := trodVars_none hV
  have k0 := h0
  have lt0 : ∀ x ∈ p0, x.block < W.heap.size := by obtain ⟨m, hm⟩ := k0; exact DataW.trod_lt m _ _ _ hm
  have k1 := h1
  have lt1 : ∀ x ∈ p1, x.block < W.heap.size := by obtain ⟨m, hm⟩ := k1; exact DataW.trod_lt m _ _ _ hm
  have k2 := h2
  have lt2 : ∀ x ∈ p2, x.block < W.heap.size := by obtain ⟨m, hm⟩ := k2; exact DataW.trod_lt m _ _ _ hm
  obtain ⟨a0, rfl, rfl, rfl, w0⟩ := open_int Try.underlying5 (hval 0 5 v0 rfl rfl) h0
  obtain ⟨a1, rfl, rfl, rfl, w1⟩ := open_int Try.underlying2 (hval 1 2 v1 rfl rfl) h1
  obtain ⟨a2, rfl, rfl, rfl, w2⟩ := open_string Try.underlying9 (hval 2 9 v2 rfl rfl) h2
  clear hA0 hval0
  refine (fieldsOne_walk W a0 w0 a1 w1 a2 w2).mono fun e W' ⟨he, bel⟩ => ?_
  subst he
  exact ⟨_, rfl, _, _, _, [], _, [], hW', trodAll_mk1 (shut_bool Try.underlying4 _), (trodAll_cons_mk (Below.trod fieldsOne_laidOut (by kernel_rfl) (of_decide_eq_true (by kernel_rfl)) k0 bel lt0) (trodAll_cons_mk (Below.trod fieldsOne_laidOut (by kernel_rfl) (of_decide_eq_true (by kernel_rfl)) k1 bel lt1) (trodAll_cons_mk (Below.trod fieldsOne_laidOut (by kernel_rfl) (of_decide_eq_true (by kernel_rfl)) k2 bel lt2) trodAll_mk0))), rfl, bel.frame _, fun h => by cases h⟩

theorem fieldsOne_over : Rows.fieldsOneRow.holds Try.pinned (OpenSpec.ofChange Rows.fieldsOneSpec) :=
  OpenClaim.holds_of_wide 7 Try.f7 rfl rfl rfl rfl rfl rfl rfl ⟨rfl, rfl, rfl, rfl, rfl⟩ rfl rfl rfl rfl rfl (by kernel_rfl) Try.func7 (by kernel_rfl)
    (of_decide_eq_true (by kernel_rfl)) (by unfold Func.isWrapper; first | (rw [if_pos (by decide +kernel)]; kernel_rfl) | (rw [if_neg (by decide +kernel)]; exact ⟨rfl, rfl⟩))
    (fun os started H enc _ => fieldsOne_lifted os started H enc)

theorem fieldsOne_holds : Rows.FieldsOneSaid := fieldsOne_over
#print axioms fieldsOne_holds
end Go.Proofs.Ytaokhgbkghbpmaa
