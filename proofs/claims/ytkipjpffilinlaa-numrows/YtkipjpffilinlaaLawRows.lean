/- For every row of numbers and every row of texts NumRows returns true, and each argument reads behind the call as before it: numbers and texts one behind the other are read in their order. No conditions. -/
import Derived.Test.YtkipjpffilinlaaKnown
import Derived.ProofKit
import Derived.OpenShut
import Derived.ShutString
import Derived.ChangeOld
import Derived.Below
import Derived.SizedLaws
namespace Go.Proofs.Ytkipjpffilinlaa
open Go.ChangeShapes Go.WideShapes Go.ChangeAt Go.RowKit
open Go.ChangeMaps (open_string shut_string)
set_option linter.unusedVariables false

def cat1 (l : List Nat) : List UInt8 := l.flatMap put
def cat2 (l : List ByteArray) : List UInt8 := l.flatMap fun s => text s.data.toList
theorem flat_succ {α : Type} (f : α → List UInt8) (xs : List α) (k : Nat) (h : k < xs.length) : (xs.take (k + 1)).flatMap f = (xs.take k).flatMap f ++ f xs[k] := by
  rw [List.take_succ_eq_append_getElem h, List.flatMap_append]
  simp
theorem flat_drop {α : Type} (f : α → List UInt8) (xs : List α) (k : Nat) (h : k < xs.length) (R : List UInt8) : (xs.flatMap f ++ R).drop ((xs.take k).flatMap f).length = f xs[k] ++ ((xs.drop (k + 1)).flatMap f ++ R) := by
  have e : xs.flatMap f = (xs.take k).flatMap f ++ (f xs[k] ++ (xs.drop (k + 1)).flatMap f) := by
    conv => lhs; rw [← List.take_append_drop k xs, List.drop_eq_getElem_cons h]
    rw [List.flatMap_append, List.flatMap_cons]
  rw [e, List.append_assoc, List.drop_left]
  simp
theorem flat_len {α : Type} (f : α → List UInt8) (B : Nat) : ∀ (l : List α), (∀ x ∈ l, (f x).length ≤ B) → (l.flatMap f).length ≤ B * l.length
  | [], _ => by simp
  | x :: r, h => by
    have h1 := h x (by simp)
    have h2 := flat_len f B r (fun y hy => h y (by simp [hy]))
    rw [List.flatMap_cons, List.length_append, List.length_cons, Nat.mul_add]
    omega
theorem cat1_len (l : List Nat) : (cat1 l).length ≤ 10 * l.length := flat_len put 10 l fun x _ => (put_length x).2
theorem text_len (s : ByteArray) (h : s.size ≤ 200) : (text s.data.toList).length ≤ 210 := by
  have := (put_length s.data.toList.length).2
  unfold text
  rw [List.length_append]
  show _ + s.size ≤ _
  omega
theorem cat2_len (l : List ByteArray) (h : ∀ s ∈ l, s.size ≤ 200) : (cat2 l).length ≤ 210 * l.length := flat_len _ 210 l fun x hx => text_len x (h x hx)
theorem cat1_get (xs : List Nat) (k : Nat) (h : k < xs.length) (hb : xs[k] ≤ 18446744073709551615) (R : List UInt8) : get ((cat1 xs ++ R).drop (cat1 (xs.take k)).length) = (xs[k], (put xs[k]).length, 0) := by
  unfold cat1
  rw [flat_drop put xs k h R]
  exact get_put _ hb _
theorem texts_back (l tail : List UInt8) (most : Int) (hl : l.length ≤ 18446744073709551615) (hm : (l.length : Int) ≤ max most 0) : texts (text l ++ tail) most = (l, (text l).length, 0) := by
  have hg := get_put l.length hl (l ++ tail)
  unfold texts text
  rw [List.append_assoc, hg]
  simp only [ne_eq, not_true_eq_false, if_false]
  rw [if_neg (by omega), if_neg (by simp only [List.length_append]; omega)]
  simp
theorem cat2_get (A : List UInt8) (ts : List ByteArray) (k : Nat) (h : k < ts.length) (hb : ts[k].size ≤ 200) : texts ((A ++ cat2 ts).drop (A.length + (cat2 (ts.take k)).length)) 200 = (ts[k].data.toList, (text ts[k].data.toList).length, 0) := by
  have e : (A ++ cat2 ts).drop (A.length + (cat2 (ts.take k)).length) = (cat2 ts ++ []).drop (cat2 (ts.take k)).length := by rw [List.drop_append]; simp
  rw [e]
  unfold cat2
  rw [flat_drop _ ts k h []]
  exact texts_back _ _ _ (by show ts[k].size ≤ _; omega) (by show (ts[k].size : Int) ≤ _; omega)
def RowIs (w : World) (a : Option Addr) (vs : List Value) : Prop := vs = [] ∨ ∃ b off, a = some ⟨b, off, none⟩ ∧ ∀ i (h : i < vs.length), w.cell? ⟨b, off + i, none⟩ = some vs[i]
def n64s (xs : List Nat) : List Value := xs.map fun (n : Nat) => Value.int .u64 (n : Int)
def strs' (ts : List ByteArray) : List Value := ts.map fun s => Value.string s
theorem flat_take_le {α : Type} (f : α → List UInt8) (xs : List α) (k : Nat) : ((xs.take k).flatMap f).length ≤ (xs.flatMap f).length := by
  conv => rhs; rw [← List.take_append_drop k xs, List.flatMap_append, List.length_append]
  omega
theorem extract_tail (S : List UInt8) (p : Nat) : ((⟨S.toArray⟩ : ByteArray).extract p S.length).data.toList = S.drop p := by
  rw [ByteArray.extract_mk]
  show (S.drop p).take (S.length - p) = _
  exact List.take_of_length_le (by simp)
theorem texts_at {s u : ByteArray} {most : Int} {k e : Nat} (h : Hid (texts s.data.toList most = (u.data.toList, k, e))) (hs : s.size ≤ 281474976710656) (hm0 : -9223372036854775808 ≤ most) (hm1 : most ≤ 9223372036854775807) (w : World) :
    Calls Try.prog 14 #[.string s, .int .i64 most] w fun x w' => x = .returned (.tuple #[.string u, .int .i64 k, .int .i64 e]) ∧ Below w.heap.size w w' := by
  have := texts14 s most hs hm0 hm1 w
  rw [h.out] at this
  exact this
set_option maxRecDepth 100000 in
set_option maxHeartbeats 2000000 in
theorem numRows_walk (a0 a1 : Option Addr) (len0 cap0 len1 cap1 : Nat) (xs : List Nat) (ts : List ByteArray) (w : World) (hx : xs.length = len0) (hxb : ∀ n ∈ xs, n ≤ 18446744073709551615) (hxr : RowIs w a0 (n64s xs)) (ht : ts.length = len1) (htb : ∀ s ∈ ts, s.size ≤ maxLen) (htr : RowIs w a1 (strs' ts)) (hl0 : len0 ≤ maxLen) (hl1 : len1 ≤ maxLen) :
    Calls Try.prog 7 #[.slice a0 len0 cap0, .slice a1 len1 cap1] w fun e w' => e = .returned (.bool true) ∧ Below w.heap.size w w' := by
  unfold maxLen at hl0 hl1
  by_cases h20 : 20 < len0
  · go_enter Try.func7, Try.ntmps7
    go_wp2_with fail
    refine (known9 _).mono ?_
    rintro x w1 ⟨rfl, hb1⟩
    go_wp2
    go_ret
    exact ⟨rfl, hb1⟩
  by_cases h21 : 20 < len1
  · go_enter Try.func7, Try.ntmps7
    go_wp2_with fail
    refine (known9 _).mono ?_
    rintro x w1 ⟨rfl, hb1⟩
    go_wp2
    go_ret
    exact ⟨rfl, hb1⟩
  have HX : Hid (xs.length = len0) := hx
  have HT : Hid (ts.length = len1) := ht
  have HXB : Hid (∀ n ∈ xs, n ≤ 18446744073709551615) := hxb
  have HTB : Hid (∀ s ∈ ts, s.size ≤ maxLen) := htb
  clear hx ht hxb htb
  go_enter Try.func7, Try.ntmps7
  go_wp2_with fail
  refine (known9 _).mono ?_
  rintro x w1 ⟨rfl, hb1⟩
  go_wp2
  go_loopw [5, 6] (fun s i wr => ∃ k : Nat, i = .int .i64 k ∧ k ≤ len0 ∧ s = .string ⟨(cat1 (xs.take k)).toArray⟩ ∧ Below w.heap.size w wr) (fun _ i _ => len0 - (intOf i).toNat)
  case atStart => exact ⟨0, rfl, by omega, rfl, hb1⟩
  case round =>
    clear hb1
    obtain ⟨k, rfl, hk, rfl, hb⟩ := hrel
    have hcl : (cat1 (xs.take k)).length ≤ 200 := by
      have := cat1_len (xs.take k)
      rw [List.length_take] at this
      omega
    by_cases hlt : k < len0
    · have hlt' : k < xs.length := by rw [HX.out]; exact hlt
      obtain ⟨n, hn⟩ : ∃ n, n = xs[k] := ⟨_, rfl⟩
      have hnb : n ≤ 18446744073709551615 := by rw [hn]; exact HXB.out _ (List.getElem_mem _)
      obtain ⟨b, off, rfl, hc⟩ : ∃ b off, a0 = some ⟨b, off, none⟩ ∧ wr.cell? ⟨b, off + k, none⟩ = some (.int .u64 n) := by
        rcases hxr with h | ⟨b, off, h, hc⟩
        · simp [n64s] at h; subst h; simp at hlt'
        · exact ⟨b, off, h, by rw [cell_later hb (hc k (by simpa [n64s] using hlt')), hn]; simp [n64s]⟩
      have hnl := put_length n
      have HN : Hid (n = xs[k]) := hn
      clear hn
      go_wp2_with fail
      refine (put_any n hnb _).mono ?_
      rintro x w2 ⟨rfl, hb2⟩
      go_wp2
      go_roundw
      case rel => exact ⟨k + 1, by go_num, by omega, by rw [ByteArray.mk_append_mk, HN.out]; unfold cat1; rw [flat_succ put xs k hlt'], hb.trans (hb2.mono hb.size)⟩
      case measure => simp [intOf]; omega
    · obtain rfl : k = len0 := by omega
      rw [List.take_of_length_le (by rw [HX.out]; omega)]
      clear hlt hk
      go_wp2_with fail
      have hcl : (cat1 xs).length ≤ 200 := by
        have := cat1_len xs
        rw [HX.out] at this
        omega
      obtain ⟨A, hA⟩ : ∃ A, A = cat1 xs := ⟨_, rfl⟩
      rw [← hA] at hcl ⊢
      have HA : Hid (A = cat1 xs) := hA
      clear hA
      have hbA := hb
      clear hb
      go_loopw [5, 7] (fun s i wr => ∃ j : Nat, i = .int .i64 j ∧ j ≤ len1 ∧ s = .string ⟨(A ++ cat2 (ts.take j)).toArray⟩ ∧ (∀ t ∈ ts.take j, t.size ≤ 200) ∧ Below w.heap.size w wr) (fun _ i _ => len1 - (intOf i).toNat)
      case atStart => exact ⟨0, rfl, by omega, by simp [cat2], by simp, hbA⟩
      case round =>
        clear hbA
        obtain ⟨j, rfl, hj, rfl, hts, hb⟩ := hrel
        have hcl2 : (A ++ cat2 (ts.take j)).length ≤ 4400 := by
          have := cat2_len (ts.take j) hts
          rw [List.length_take] at this
          rw [List.length_append]
          omega
        by_cases hlt : j < len1
        · have hlt' : j < ts.length := by rw [HT.out]; exact hlt
          obtain ⟨t, htj⟩ : ∃ t, t = ts[j] := ⟨_, rfl⟩
          have htb : t.size ≤ 2 ^ 63 - 1 := by rw [htj]; exact HTB.out _ (List.getElem_mem _)
          obtain ⟨b, off, rfl, hc⟩ : ∃ b off, a1 = some ⟨b, off, none⟩ ∧ wr.cell? ⟨b, off + j, none⟩ = some (.string t) := by
            rcases htr with h | ⟨b, off, h, hc⟩
            · simp [strs'] at h; subst h; simp at hlt'
            · exact ⟨b, off, h, by rw [cell_later hb (hc j (by simpa [strs'] using hlt')), htj]; simp [strs']⟩
          have HN : Hid (t = ts[j]) := htj
          have HTS : Hid (∀ t ∈ ts.take j, t.size ≤ 200) := hts
          clear htj hts
          obtain ⟨B, hB⟩ : ∃ B, B = A ++ cat2 (ts.take j) := ⟨_, rfl⟩
          rw [← hB] at hcl2 ⊢
          have HB : Hid (B = A ++ cat2 (ts.take j)) := hB
          clear hB
          by_cases h200 : 200 < t.size
          · go_wp2
            go_ret
            exact ⟨rfl, hb⟩
          · go_wp2_with fail
            refine (text24 t (by omega) _).mono ?_
            rintro x w2 ⟨rfl, hb2⟩
            have htl := text_len t (by omega)
            go_wp2
            go_roundw
            case rel =>
              refine ⟨j + 1, by go_num, by omega, ?_, ?_, hb.trans (hb2.mono hb.size)⟩
              · rw [ByteArray.mk_append_mk, HN.out, HB.out]
                unfold cat2
                rw [flat_succ _ ts j hlt', List.append_assoc]
              · intro t' ht'
                rw [List.take_succ_eq_append_getElem hlt', List.mem_append, List.mem_singleton] at ht'
                rcases ht' with h | h
                · exact HTS.out t' h
                · rw [h, ← HN.out]; omega
            case measure => simp [intOf]; omega
        · obtain rfl : j = len1 := by omega
          rw [List.take_of_length_le (by rw [HT.out]; omega)] at hts hcl2 ⊢
          clear hlt hj
          obtain ⟨S, hS⟩ : ∃ S, S = A ++ cat2 ts := ⟨_, rfl⟩
          rw [← hS] at hcl2 ⊢
          have HS : Hid (S = A ++ cat2 ts) := hS
          have HTS : Hid (∀ t ∈ ts, t.size ≤ 200) := hts
          clear hS hts
          have hAS : A.length ≤ S.length := by rw [HS.out, List.length_append]; omega
          have hbB := hb
          clear hb
          go_wp2_with fail
          go_loopw [8, 9] (fun a i wr => ∃ i' p : Nat, i = .int .i64 i' ∧ i' ≤ k ∧ a = .int .i64 p ∧ p = (cat1 (xs.take i')).length ∧ Below w.heap.size w wr) (fun _ i _ => k - (intOf i).toNat)
          case atStart => exact ⟨0, 0, rfl, by omega, rfl, by simp [cat1], hbB⟩
          case round =>
            clear hbB
            obtain ⟨i, p, rfl, hi, rfl, hp, hb⟩ := hrel
            have HP : Hid (p = (cat1 (xs.take i)).length) := hp
            clear hp
            by_cases hlt : i < k
            · have hlt' : i < xs.length := by rw [HX.out]; exact hlt
              have hpA : p ≤ A.length := by
                rw [HP.out, HA.out]; exact flat_take_le put xs i
              obtain ⟨n, hn⟩ : ∃ n, n = xs[i] := ⟨_, rfl⟩
              have hnb : n ≤ 18446744073709551615 := by rw [hn]; exact HXB.out _ (List.getElem_mem _)
              obtain ⟨b, off, rfl, hc⟩ : ∃ b off, a0 = some ⟨b, off, none⟩ ∧ wr.cell? ⟨b, off + i, none⟩ = some (.int .u64 n) := by
                rcases hxr with h | ⟨b, off, h, hc⟩
                · simp [n64s] at h; subst h; simp at hlt'
                · exact ⟨b, off, h, by rw [cell_later hb (hc i (by simpa [n64s] using hlt')), hn]; simp [n64s]⟩
              obtain ⟨q, hq⟩ : ∃ q, q = (put n).length := ⟨_, rfl⟩
              have hql : q ≤ 10 := by rw [hq]; exact (put_length n).2
              have G : Hid (get ((⟨S.toArray⟩ : ByteArray).extract p S.length).data.toList = (n, q, 0)) := by
                rw [extract_tail, HP.out, HS.out, HA.out, hq, hn]
                exact cat1_get xs i hlt' (by rw [← hn]; exact hnb) _
              have HQ : Hid (p + q = (cat1 (xs.take (i + 1))).length) := by
                unfold cat1; rw [flat_succ put xs i hlt', List.length_append, HP.out, hq, hn]; rfl
              clear hn hq
              go_wp2_with fail
              refine (get_eq G (by unfold maxLen; rw [ByteArray.size_extract]; show min _ S.length - _ ≤ _; omega) _).mono ?_
              rintro x w2 ⟨rfl, hw2⟩
              subst hw2
              go_wp2
              go_roundw
              case rel => exact ⟨i + 1, p + q, by go_num, by omega, by go_num, HQ.out, hb⟩
              case measure => simp [intOf]; omega
            · obtain rfl : i = k := by omega
              have hpA : p = A.length := by
                rw [HP.out, List.take_of_length_le (by rw [HX.out]; omega), HA.out]
              subst hpA
              clear hlt HP hi
              have hbC := hb
              clear hb
              go_wp2_with fail
              go_loopw [8, 13] (fun a i wr => ∃ i' p : Nat, i = .int .i64 i' ∧ i' ≤ j ∧ a = .int .i64 p ∧ p = A.length + (cat2 (ts.take i')).length ∧ Below w.heap.size w wr) (fun _ i _ => j - (intOf i).toNat)
              case atStart => exact ⟨0, A.length, rfl, by omega, rfl, by simp [cat2], hbC⟩
              case round =>
                clear hbC
                obtain ⟨m, p, rfl, hm, rfl, hp, hb⟩ := hrel
                have HP : Hid (p = A.length + (cat2 (ts.take m)).length) := hp
                clear hp
                by_cases hlt : m < j
                · have hlt' : m < ts.length := by rw [HT.out]; exact hlt
                  have hpS : p ≤ S.length := by
                    rw [HP.out, HS.out, List.length_append]
                    have := flat_take_le (fun s : ByteArray => text s.data.toList) ts m
                    exact Nat.add_le_add_left this _
                  obtain ⟨t, htm⟩ : ∃ t, t = ts[m] := ⟨_, rfl⟩
                  have htb : t.size ≤ 200 := by rw [htm]; exact HTS.out _ (List.getElem_mem _)
                  obtain ⟨b, off, rfl, hc⟩ : ∃ b off, a1 = some ⟨b, off, none⟩ ∧ wr.cell? ⟨b, off + m, none⟩ = some (.string t) := by
                    rcases htr with h | ⟨b, off, h, hc⟩
                    · simp [strs'] at h; subst h; simp at hlt'
                    · exact ⟨b, off, h, by rw [cell_later hb (hc m (by simpa [strs'] using hlt')), htm]; simp [strs']⟩
                  obtain ⟨q, hq⟩ : ∃ q, q = (text t.data.toList).length := ⟨_, rfl⟩
                  have hql : q ≤ 210 := by rw [hq]; exact text_len t htb
                  have G : Hid (texts ((⟨S.toArray⟩ : ByteArray).extract p S.length).data.toList 200 = (t.data.toList, q, 0)) := by
                    rw [extract_tail, HP.out, HS.out, hq, htm]
                    exact cat2_get A ts m hlt' (by rw [← htm]; exact htb)
                  have HQ : Hid (p + q = A.length + (cat2 (ts.take (m + 1))).length) := by
                    unfold cat2; rw [flat_succ _ ts m hlt', List.length_append, HP.out, hq, htm, Nat.add_assoc]; rfl
                  clear htm hq
                  go_wp2_with fail
                  refine (texts_at G (by rw [ByteArray.size_extract]; show min _ S.length - _ ≤ _; omega) (by omega) (by omega) _).mono ?_
                  rintro x w2 ⟨rfl, hb2⟩
                  have hc2 := cell_later (hb2.mono (Nat.le_refl _)) hc
                  go_wp2
                  go_roundw
                  case rel => exact ⟨m + 1, p + q, by go_num, by omega, by go_num, HQ.out, hb.trans (hb2.mono hb.size)⟩
                  case measure => simp [intOf]; omega
                · obtain rfl : m = j := by omega
                  have hpS : p = S.length := by
                    rw [HP.out, HS.out, List.take_of_length_le (by rw [HT.out]; omega), List.length_append]
                  subst hpS
                  go_wp2
                  go_ret
                  exact ⟨rfl, hb⟩
theorem numRows_own : ownKnob Try.prog.godebug = none := by kernel_rfl
theorem numRows_laidOut : laidOutB Try.prog = true := by kernel_rfl
theorem row_ints {w : World} {x : Addr} {len : Nat} {zs : List Int} (hl : len ≤ zs.length) (hcell : ∀ i, i < zs.length → w.cell? (x.add i) = some (.int .u64 (zs.getD i 0))) (hwz : ∀ n ∈ zs, (Lit.int .u64 n).wf = true) :
    ∃ xs : List Nat, xs.length = len ∧ (∀ n ∈ xs, n ≤ 18446744073709551615) ∧ RowIs w (some x) (n64s xs) := by
  refine ⟨(zs.take len).map Int.toNat, by simp; omega, ?_, ?_⟩
  · intro n hn
    rw [List.mem_map] at hn
    obtain ⟨z, hz, rfl⟩ := hn
    have := bounds_u64 (hwz z (List.mem_of_mem_take hz))
    omega
  · rcases Nat.eq_zero_or_pos len with h0 | h0
    · left; subst h0; rfl
    · right
      obtain ⟨b, off, spot⟩ := x
      have hc := hcell 0 (by omega)
      have hspot : spot = none := by simpa [Addr.add] using World.cell?_spot hc
      subst hspot
      refine ⟨b, off, rfl, fun i h => ?_⟩
      have hi : i < len := by simp [n64s] at h; omega
      have hzi : i < zs.length := by omega
      have e : (⟨b, off, none⟩ : Addr).add i = ⟨b, off + i, none⟩ := by unfold Addr.add; split <;> simp_all
      have := hcell i hzi
      rw [e] at this
      rw [this]
      have hb := bounds_u64 (hwz zs[i] (List.getElem_mem _))
      simp [n64s, hzi]
      omega
theorem row_strs {w : World} {x : Addr} {len : Nat} {ss : List ByteArray} (hl : len ≤ ss.length) (hcell : ∀ i, i < ss.length → w.cell? (x.add i) = some (.string (ss.getD i ByteArray.empty))) (hws : ∀ s ∈ ss, s.size ≤ maxLen) :
    ∃ ts : List ByteArray, ts.length = len ∧ (∀ s ∈ ts, s.size ≤ maxLen) ∧ RowIs w (some x) (strs' ts) := by
  refine ⟨ss.take len, by simp; omega, fun s hs => hws s (List.mem_of_mem_take hs), ?_⟩
  rcases Nat.eq_zero_or_pos len with h0 | h0
  · left; subst h0; rfl
  · right
    obtain ⟨b, off, spot⟩ := x
    have hc := hcell 0 (by omega)
    have hspot : spot = none := by simpa [Addr.add] using World.cell?_spot hc
    subst hspot
    refine ⟨b, off, rfl, fun i h => ?_⟩
    have hi : i < len := by simp [strs'] at h; omega
    have hzi : i < ss.length := by omega
    have e : (⟨b, off, none⟩ : Addr).add i = ⟨b, off + i, none⟩ := by unfold Addr.add; split <;> simp_all
    have := hcell i hzi
    rw [e] at this
    rw [this]
    simp [strs', hzi]
set_option maxRecDepth 100000 in
theorem numRows_lifted (os : Os) (started : os.Started) (H : Type) (enc : TypeId × Value → H) :
    ReturnsInHanded {} Try.checked os 7 .any (Rows.numRowsSpec.pre6 enc Try.prog Try.f7 Rows.numRowsRow.domain false) (Rows.numRowsSpec.post enc Try.prog Try.f7 false true false false) := by
  refine returnsInHanded_of_change (C := Try.checked) numRows_own started (by kernel_rfl) Try.func7
    (ChangeSpec.witness6 (enc := enc) (C := Try.checked) false ⟨#[], #[.slice none 0 0, .slice none 0 0], []⟩ 8 (by kernel_rfl) (by kernel_rfl) (by kernel_rfl) (by kernel_rfl)) ?_
  intro W base args ds gs before hval0 hW hcnd _
  have hval : ∀ (j : Nat) t v, Try.f7.params[j]? = some t → args[j]? = some v → Value.okWide Try.prog W .any base t v := hval0
  have hW' := hW
  obtain ⟨p, q, hA0, hV, rfl, hfz, hnd⟩ := hW
  have hA : DataW.TrodAll enc Try.prog W 0 (fun _ => true) true Try.f7.params.toList args.toList ds p := hA0
  rw [Try.params7] at hA hval
  obtain ⟨v0, vs0, d0, ds0, p0, q0, hargs, rfl, rfl, h0, r0⟩ := trodAll_cons hA
  obtain ⟨v1, vs1, d1, ds1, p1, q1, rfl, rfl, rfl, h1, r1⟩ := trodAll_cons r0
  obtain ⟨rfl, rfl, rfl⟩ := trodAll_nil r1
  obtain rfl : args = #[v0, v1] := by cases args; simp_all
  obtain ⟨rfl, rfl⟩ := trodVars_none hV
  obtain ⟨a0, len0, cap0, rfl⟩ := okWide_slice Try.underlying47 (hval 0 47 v0 rfl rfl)
  obtain ⟨a1, len1, cap1, rfl⟩ := okWide_slice Try.underlying48 (hval 1 48 v1 rfl rfl)
  have k0 := h0
  have k1 := h1
  have lt0 : ∀ x ∈ p0, x.block < W.heap.size := by obtain ⟨m, hm⟩ := k0; exact DataW.trod_lt m _ _ _ hm
  have lt1 : ∀ x ∈ p1, x.block < W.heap.size := by obtain ⟨m, hm⟩ := k1; exact DataW.trod_lt m _ _ _ hm
  obtain ⟨xs, hx, hxb, hxr, hl0⟩ : ∃ xs : List Nat, xs.length = len0 ∧ (∀ n ∈ xs, n ≤ 18446744073709551615) ∧ RowIs W a0 (n64s xs) ∧ len0 ≤ maxLen := by
    obtain ⟨fuel, hf⟩ := h0
    rcases open_ints Try.underlying47 Try.underlying22 (by kernel_rfl) hf with ⟨hcs, _⟩ | ⟨x, l, c, zs, hcs, _, hl, hm, hz, _, hcell, hwz⟩
    · simp [Value.cells] at hcs
      obtain ⟨rfl, rfl, rfl⟩ := hcs
      exact ⟨[], rfl, by simp, .inl rfl, by unfold maxLen; omega⟩
    · simp [Value.cells] at hcs
      obtain ⟨rfl, rfl, rfl⟩ := hcs
      have hz' : zs.length = cap0 := by simpa using hz
      obtain ⟨xs, e1, e2, e3⟩ := row_ints (len := len0) (by omega) hcell hwz
      exact ⟨xs, e1, e2, e3, by omega⟩
  obtain ⟨ts, ht, htb, htr, hl1⟩ : ∃ ts : List ByteArray, ts.length = len1 ∧ (∀ s ∈ ts, s.size ≤ maxLen) ∧ RowIs W a1 (strs' ts) ∧ len1 ≤ maxLen := by
    obtain ⟨fuel, hf⟩ := h1
    rcases open_strings Try.underlying48 Try.underlying9 (by kernel_rfl) hf with ⟨hcs, _⟩ | ⟨x, l, c, ss, hcs, _, hl, hm, hz, _, hcell, hws⟩
    · simp [Value.cells] at hcs
      obtain ⟨rfl, rfl, rfl⟩ := hcs
      exact ⟨[], rfl, by simp, .inl rfl, by unfold maxLen; omega⟩
    · simp [Value.cells] at hcs
      obtain ⟨rfl, rfl, rfl⟩ := hcs
      have hz' : ss.length = cap1 := by simpa using hz
      obtain ⟨ts, e1, e2, e3⟩ := row_strs (len := len1) (by omega) hcell hws
      exact ⟨ts, e1, e2, e3, by omega⟩
  clear hA0 hval0
  refine (numRows_walk a0 a1 len0 cap0 len1 cap1 xs ts W hx hxb hxr ht htb htr hl0 hl1).mono fun e W' ⟨he, bel⟩ => ?_
  subst he
  exact ⟨_, rfl, _, _, _, [], _, [], hW', trodAll_mk1 (shut_bool Try.underlying4 _), (trodAll_cons_mk (Below.trod numRows_laidOut (by kernel_rfl) (of_decide_eq_true (by kernel_rfl)) k0 bel lt0) (trodAll_cons_mk (Below.trod numRows_laidOut (by kernel_rfl) (of_decide_eq_true (by kernel_rfl)) k1 bel lt1) trodAll_mk0)), rfl, bel.frame _, fun h => by cases h⟩

theorem numRows_over : Rows.numRowsRow.holds Try.pinned (OpenSpec.ofChange Rows.numRowsSpec) :=
  OpenClaim.holds_of_wide 7 Try.f7 rfl rfl rfl rfl rfl rfl rfl ⟨rfl, rfl, rfl, rfl, rfl⟩ rfl rfl rfl rfl rfl (by kernel_rfl) Try.func7 (by kernel_rfl)
    (of_decide_eq_true (by kernel_rfl)) (by unfold Func.isWrapper; first | (rw [if_pos (by decide +kernel)]; kernel_rfl) | (rw [if_neg (by decide +kernel)]; exact ⟨rfl, rfl⟩))
    (fun os started H enc _ => numRows_lifted os started H enc)

theorem numRows_holds : Rows.NumRowsSaid := numRows_over
#print axioms numRows_holds
end Go.Proofs.Ytkipjpffilinlaa
