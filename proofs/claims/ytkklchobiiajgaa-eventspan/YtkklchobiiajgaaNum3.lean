/- More contracts of num in the form that laws ask for, and facts on bytes one behind the other. -/
import Derived.Test.YtkklchobiiajgaaNum2
namespace Go.Proofs.Ytkklchobiiajgaa
open Go.RowKit
theorem put_at {n : Nat} {L : List UInt8} (H : Hid (L = put n)) (h1 : n ≤ 18446744073709551615) (w : World) :
    Calls Try.prog 29 #[.int .u64 n] w fun e w' => e = .returned (.string ⟨L.toArray⟩) ∧ Below w.heap.size w w' := by
  rw [H.out]; exact put_any n h1 w
theorem int_at {z : Int} {L : List UInt8} (H : Hid (L = put (zig z))) (h0 : -9223372036854775808 ≤ z) (h1 : z ≤ 9223372036854775807) (w : World) :
    Calls Try.prog 83 #[.int .i64 z] w fun e w' => e = .returned (.string ⟨L.toArray⟩) ∧ Below w.heap.size w w' := by
  rw [H.out]; exact num_int z h0 h1 w
theorem text_at {s : ByteArray} {L : List UInt8} (H : Hid (L = text s.data.toList)) (hs : s.size ≤ 281474976710656) (w : World) :
    Calls Try.prog 82 #[.string s] w fun e w' => e = .returned (.string ⟨L.toArray⟩) ∧ Below w.heap.size w w' := by
  rw [H.out]; exact num_text s hs w
theorem ints_at {s : ByteArray} {n k e : Nat} {z : Int} (h : Hid (get s.data.toList = (n, k, e))) (hz : Hid (zag n = z)) (hs : s.size ≤ maxLen) (w : World) :
    Calls Try.prog 87 #[.string s] w fun x w' => x = .returned (.tuple #[.int .i64 z, .int .i64 k, .int .i64 e]) ∧ w' = w := by
  have := num_ints s hs w
  rw [h.out, hz.out] at this
  exact this
theorem texts_at {s u : ByteArray} {most : Int} {k e : Nat} (h : Hid (texts s.data.toList most = (u.data.toList, k, e))) (hs : s.size ≤ 281474976710656) (hm0 : -9223372036854775808 ≤ most) (hm1 : most ≤ 9223372036854775807) (w : World) :
    Calls Try.prog 86 #[.string s, .int .i64 most] w fun x w' => x = .returned (.tuple #[.string u, .int .i64 k, .int .i64 e]) ∧ Below w.heap.size w w' := by
  have := num_texts s most hs hm0 hm1 w
  rw [h.out] at this
  exact this
theorem zag_at {n : Nat} {z : Int} (hz : Hid (zag n = z)) (h1 : n ≤ 18446744073709551615) (w : World) :
    Calls Try.prog 91 #[.int .u64 n] w fun e w' => e = .returned (.int .i64 z) ∧ w' = w := by
  rw [← hz.out]; exact num_zag n h1 w
theorem zig_at {z : Int} {n : Nat} (hz : Hid (zig z = n)) (h0 : -9223372036854775808 ≤ z) (h1 : z ≤ 9223372036854775807) (w : World) :
    Calls Try.prog 89 #[.int .i64 z] w fun e w' => e = .returned (.int .u64 n) ∧ w' = w := by
  rw [← hz.out]; exact num_zig z h0 h1 w
theorem data_append (l : List UInt8) (t : ByteArray) : ((⟨l.toArray⟩ : ByteArray) ++ t).data.toList = l ++ t.data.toList := by
  have := ByteArray.mk_append_mk l t.data.toList
  rw [show (⟨t.data.toList.toArray⟩ : ByteArray) = t from rfl] at this
  rw [this]
theorem texts_back (l tail : List UInt8) (most : Int) (hl : l.length ≤ 18446744073709551615) (hm : (l.length : Int) ≤ max most 0) : texts (text l ++ tail) most = (l, (text l).length, 0) := by
  have hg := get_put l.length hl (l ++ tail)
  unfold texts text
  rw [List.append_assoc, hg]
  simp only [ne_eq, not_true_eq_false, if_false]
  rw [if_neg (by omega), if_neg (by simp only [List.length_append]; omega)]
  simp
theorem flat_succ {α : Type} (f : α → List UInt8) (xs : List α) (k : Nat) (h : k < xs.length) : (xs.take (k + 1)).flatMap f = (xs.take k).flatMap f ++ f xs[k] := by
  rw [List.take_succ_eq_append_getElem h, List.flatMap_append]
  simp
theorem flat_drop {α : Type} (f : α → List UInt8) (xs : List α) (k : Nat) (h : k < xs.length) (R : List UInt8) : (xs.flatMap f ++ R).drop ((xs.take k).flatMap f).length = f xs[k] ++ ((xs.drop (k + 1)).flatMap f ++ R) := by
  have e : xs.flatMap f = (xs.take k).flatMap f ++ (f xs[k] ++ (xs.drop (k + 1)).flatMap f) := by
    conv => lhs; rw [← List.take_append_drop k xs, List.drop_eq_getElem_cons h]
    rw [List.flatMap_append, List.flatMap_cons]
  rw [e, List.append_assoc, List.drop_left]
  simp
theorem flat_len {α : Type} (f : α → List UInt8) (B : Nat) : ∀ (l : List α), (∀ x ∈ l, (f x).length ≤ B) → (l.flatMap f).length ≤ B * l.length
  | [], _ => by simp
  | x :: r, h => by
    have h1 := h x (by simp)
    have h2 := flat_len f B r (fun y hy => h y (by simp [hy]))
    rw [List.flatMap_cons, List.length_append, List.length_cons, Nat.mul_add]
    omega
theorem flat_take_le {α : Type} (f : α → List UInt8) (xs : List α) (k : Nat) : ((xs.take k).flatMap f).length ≤ (xs.flatMap f).length := by
  conv => rhs; rw [← List.take_append_drop k xs, List.flatMap_append, List.length_append]
  omega
theorem extract_tail (S : List UInt8) (p : Nat) : ((⟨S.toArray⟩ : ByteArray).extract p S.length).data.toList = S.drop p := by
  rw [ByteArray.extract_mk]
  show (S.drop p).take (S.length - p) = _
  exact List.take_of_length_le (by simp)
end Go.Proofs.Ytkklchobiiajgaa
