/- The statements' known(): its fixed examples hold. -/
import Derived.Test.YtlbbdpkbglkmnaaThgM
namespace Go.Proofs.Ytlbbdpkbglkmnaa
open Go.RowKit
set_option linter.unusedVariables false
theorem row_block {W : World} {g : Nat} {cs : Array Value} {ty : TypeId} {L : List Th} (h : W.heap[g]? = some (.cells cs ty (0, 0))) (hc : cs.toList = flatT L) : RowT W (some ⟨g, 0, none⟩) L := by
  right
  refine ⟨g, 0, rfl, fun k t hk => cellsT_of fun j hj => ?_⟩
  rw [Nat.zero_add, Go.Joins.cell_of_block h, ← flatT_get L k t hk j hj, ← hc]
  simp
def kT : Th := ⟨9, 3, 4, ⟨-5, ⟨#[]⟩⟩, ⟨0, ⟨#[97, 98]⟩⟩, zF, zF⟩
def kL : List UInt8 := [9, 31, 3, 4, 0, 9, 2, 97, 98, 0, 0, 0, 0]
def kA : List UInt8 := [1, 9, 31, 3, 4, 0, 9, 2, 97, 98, 0, 0, 0, 0]
theorem k_is : isT kT = true := by decide +kernel
theorem k_bytes : bytesT kT = (kL, 0) := by decide +kernel
theorem k_read : readT (kL ++ [113]) = (kT, 13, 0) := by kernel_rfl
theorem k_all : allT [kT] = (kA, 0) := by decide +kernel
theorem k_some : someL kA = ([kT], 14, 0) := by kernel_rfl
theorem k_two : allT [kT, kT] = ([], 11) := by decide +kernel
theorem k_in : inT kT := ⟨⟨by decide, by decide, by decide⟩, ⟨by decide, by decide, by decide⟩, ⟨by decide, by decide, by decide⟩, ⟨by decide, by decide, by decide⟩⟩
theorem k_in1 : ∀ t ∈ [kT], inT t := fun t ht => by simp at ht; rw [ht]; exact k_in
theorem k_in2 : ∀ t ∈ [kT, kT], inT t := fun t ht => by simp at ht; rw [ht]; exact k_in
theorem k_server : serverI 9 = 1 := by decide
theorem k_number : numberI 1 2 = 9 := by decide
set_option maxRecDepth 100000 in
set_option maxHeartbeats 4000000 in
theorem known_holds (w : World) : Calls Try.prog 9 #[] w fun e w' => e = .returned (.bool true) ∧ Below w.heap.size w w' := by
  obtain ⟨T, hT⟩ : ∃ T, Hid (kT = T) := ⟨_, rfl⟩
  obtain ⟨B, hB⟩ : ∃ B, Hid (kL = B) := ⟨_, rfl⟩
  obtain ⟨A, hA⟩ : ∃ A, Hid (kA = A) := ⟨_, rfl⟩
  have lB : B.length = 13 := by rw [← hB.out]; rfl
  have lA : A.length = 14 := by rw [← hA.out]; rfl
  have h1 : Hid (bytesT kT = (B, 0)) := by show bytesT kT = _; rw [← hB.out]; exact k_bytes
  have h2 : Hid (readT ((⟨B.toArray⟩ : ByteArray) ++ ⟨#[113]⟩).data.toList = (kT, 13, 0)) := by show readT _ = _; rw [data_append, ← hB.out]; exact k_read
  have h3 : Hid (allT [kT] = (A, 0)) := by show allT _ = _; rw [← hA.out]; exact k_all
  have h4 : Hid (someL (⟨A.toArray⟩ : ByteArray).data.toList = ([kT], 14, 0)) := by show someL A = _; rw [← hA.out]; exact k_some
  have hsz : ((⟨B.toArray⟩ : ByteArray) ++ ⟨#[113]⟩).size ≤ 1000000 := by
    rw [ByteArray.size_append]
    have e1 : (⟨B.toArray⟩ : ByteArray).size = 13 := lB
    have e2 : (⟨#[113]⟩ : ByteArray).size = 1 := rfl
    omega
  have hsA : (⟨A.toArray⟩ : ByteArray).size ≤ 1000000 := by
    have e1 : (⟨A.toArray⟩ : ByteArray).size = 14 := lA
    omega
  have q1 := equal_th_at (a := kT) (b := kT) (eqT_self kT)
  clear hT hB hA
  go_enter Try.func9, Try.ntmps9
  go_wp2_with fail
  refine (thing_bytes (t := kT) h1 k_in _).mono ?_
  rintro x w1 ⟨rfl, hb⟩
  have K1 := hid (var_on (o := kT.o) (g := w.heap.size) hb (new_at _ _ _ rfl) (by simp))
  have hE := below_on (below1 w _) hb
  have l1 := at_lt K1.out
  clear hb
  go_wp2_with fail
  refine (thing_read h2 hsz _).mono ?_
  rintro x w2 ⟨rfl, hb⟩
  replace K1 := hid (var_on hb K1.out l1)
  replace hE := below_on hE hb
  replace l1 := at_lt K1.out
  have c1 := cells_at K1.out
  clear hb
  go_wp2_with fail
  refine (thing_all (L := [kT]) (p := some ⟨w2.heap.size + 1, 0, none⟩) (cap := 1) h3 (row_block (new_at _ _ _ (by simp)) rfl) k_in1 (by simp) (by decide)).mono ?_
  rintro x w3 ⟨rfl, hb⟩
  have K2 := hid (var_on (o := kT.o) (g := w2.heap.size) hb (old_at (new_at _ _ _ rfl) _) (by simp; omega))
  replace K1 := hid (var_on hb (old_at (old_at K1.out _) _) (by simp; omega))
  replace hE := below_on ((hE.alloc (by omega) _).alloc (by simp; omega) _) hb
  replace l1 := at_lt K1.out
  have l2 := at_lt K2.out
  clear hb c1
  go_wp2_with fail
  refine (thing_some h4 hsA _).mono ?_
  rintro x w4 ⟨v, rfl, ho, hb⟩
  obtain ⟨p, cap, rfl⟩ := owns_slice ho
  replace K1 := hid (var_on hb K1.out l1)
  replace K2 := hid (var_on hb K2.out l2)
  replace hE := below_on hE hb
  replace l1 := at_lt K1.out
  replace l2 := at_lt K2.out
  have c1 := cells_at K1.out
  clear hb ho
  go_wp2_with fail
  refine (thing_all (L := [kT, kT]) (p := some ⟨w4.heap.size, 0, none⟩) (cap := 2) (hid k_two) (row_block (new_at _ _ _ (by simp)) rfl) k_in2 (by simp) (by decide)).mono ?_
  rintro x w5 ⟨rfl, hb⟩
  replace K1 := hid (var_on hb (old_at K1.out _) (by simp; omega))
  replace K2 := hid (var_on hb (old_at K2.out _) (by simp; omega))
  replace hE := below_on (hE.alloc (by omega) _) hb
  replace l1 := at_lt K1.out
  replace l2 := at_lt K2.out
  clear hb c1
  have c1 := cells_at K1.out
  have c2 := cells_at K2.out
  go_wp2_with fail
  refine (isT_at (hid k_is) _ k_in).mono ?_
  rintro x w6 ⟨rfl, hb⟩
  replace K1 := hid (var_on hb K1.out l1)
  replace K2 := hid (var_on hb K2.out l2)
  replace hE := below_on hE hb
  replace l1 := at_lt K1.out
  replace l2 := at_lt K2.out
  clear hb c1 c2
  have c1 := cells_at K1.out
  have c2 := cells_at K2.out
  go_wp2_with fail
  refine (thing_same _ kT kT).mono ?_
  rw [eqT_self]
  rintro x w7 ⟨rfl, hb⟩
  replace hE := below_on hE hb
  clear hb c1 c2 K1 K2
  go_wp2_with fail
  refine (thing_server _ 9).mono ?_
  rw [k_server]
  rintro x w8 ⟨rfl, hb⟩
  replace hE := below_on hE hb
  clear hb
  go_wp2_with fail
  refine (thing_number _ 1 2).mono ?_
  rw [k_number]
  rintro x w9 ⟨rfl, hb⟩
  replace hE := below_on hE hb
  clear hb
  go_wp2_with fail
  go_ret
  exact ⟨rfl, hE⟩
end Go.Proofs.Ytlbbdpkbglkmnaa
