/- Contracts of All of the package thing and of the reference's AllBytes: all things' bytes one behind the other, or what is wrong. -/
import Derived.Test.YtlbbdpkbglkmnaaThgB
namespace Go.Proofs.Ytlbbdpkbglkmnaa
open Go.RowKit
set_option linter.unusedVariables false
theorem okT_eq {L : List Th} {k : Nat} {t : Th} (h : L[k]? = some t) : okT L k = (isT t && risesB (L.take k) t) := by
  have hk : k < L.length := (List.getElem?_eq_some_iff.1 h).1
  have hl : (L.take k).length = k := by simp; omega
  unfold okT risesB
  rw [getD_of h, hl]
  by_cases h0 : k = 0
  · subst h0; simp
  · obtain ⟨m, rfl⟩ : ∃ m, k = m + 1 := ⟨k - 1, by omega⟩
    have e : (L.take (m + 1)).getD (m + 1 - 1) zT = L.getD (m + 1 - 1) zT := by
      simp [List.getD]
    rw [e]
theorem allT_large {L : List Th} (h : 200 < L.length) : allT L = ([], 13) := by unfold allT; rw [if_pos h]
theorem allT_no {L : List Th} {k : Nat} (hl : L.length ≤ 200) (hk : k < L.length) (h : okT L k = false) : allT L = ([], 11) := by
  unfold allT; rw [if_neg (by omega), good_no hk h]; rfl
theorem allT_yes {L : List Th} (hl : L.length ≤ 200) (h : ∀ k, k < L.length → okT L k = true) : allT L = (put L.length ++ L.flatMap thB, 0) := by
  unfold allT; rw [if_neg (by omega), good_yes h]; rfl
theorem take_flat {L : List Th} {k : Nat} {t : Th} (h : L[k]? = some t) : (L.take (k + 1)).flatMap thB = (L.take k).flatMap thB ++ thB t := by
  have hk : k < L.length := (List.getElem?_eq_some_iff.1 h).1
  rw [flat_succ thB L k hk, (List.getElem?_eq_some_iff.1 h).2]
theorem bytesT_no {t : Th} (h : isT t = false) : bytesT t = ([], 11) := by unfold bytesT; rw [h]; rfl
theorem bytesT_yes {t : Th} (h : isT t = true) : bytesT t = (thB t, 0) := by unfold bytesT; rw [h]; rfl
set_option maxHeartbeats 2000000 in
theorem thing_all {w : World} {p : Option Addr} {cap : Nat} {L : List Th} {S : List UInt8} {x : Nat} (h : Hid (allT L = (S, x))) (hr : RowT w p L) (hi : ∀ t ∈ L, inT t) (hc : L.length ≤ cap) (hm : cap ≤ maxLen) :
    Calls Try.prog 16 #[.slice p L.length cap] w fun e w' => e = .returned (.tuple #[.string ⟨S.toArray⟩, .int .i64 x]) ∧ Below w.heap.size w w' := by
  obtain ⟨n, hn⟩ : ∃ n, Hid (L.length = n) := ⟨_, rfl⟩
  rw [hn.out] at hc ⊢
  have hm' : cap ≤ 9223372036854775807 := by unfold maxLen at hm; omega
  clear hm
  by_cases h2 : 200 < n
  · have e := h.out
    rw [allT_large (by rw [hn.out]; exact h2)] at e
    simp only [Prod.mk.injEq] at e
    obtain ⟨rfl, rfl⟩ := e
    clear h
    have h2' : (200 : Int) < (n : Int) := by omega
    go_enter Try.func16, Try.ntmps16
    go_wp2_with fail
    exact bodyPost_ret (v := .tuple #[.string ⟨#[]⟩, .int .i64 13]) (by simp [results, Try.results16, go_sem]) rfl ⟨rfl, Below.refl _ _⟩
  · have h2' : (n : Int) ≤ 200 := by omega
    have h2n : n ≤ 200 := by omega
    clear h2
    obtain ⟨A0, hA0⟩ : ∃ A, Hid (A = put n) := ⟨_, rfl⟩
    have lA0 : A0.length ≤ 10 := by rw [hA0.out]; exact (put_length _).2
    go_enter Try.func16, Try.ntmps16
    go_wp2_with fail
    refine (put_at hA0 (by omega) _).mono ?_
    rintro y w1 ⟨rfl, hb1⟩
    go_wp2_with fail
    go_loopw [4, 18] (fun s i wr => ∃ (k : Nat) (A : List UInt8), k ≤ n ∧ i = .int .i64 k ∧ s = .string ⟨A.toArray⟩ ∧ A = put n ++ (L.take k).flatMap thB ∧ A.length ≤ 10 + 168 * k ∧ (∀ j, j < k → okT L j = true) ∧ Below w.heap.size w wr) (fun _ i _ => n - (intOf i).toNat)
    case atStart => exact ⟨0, A0, by omega, rfl, rfl, by rw [hA0.out]; simp, by omega, fun j hj => by omega, hb1⟩
    case round =>
      clear hb1 lA0 hA0
      obtain ⟨k, A, hk, rfl, rfl, hA, lA, hok, hb⟩ := hrel
      have HO := hid hok
      have HA := hid hA
      clear hok hA
      by_cases hlt : k < n
      · have hlt' : (k : Int) < (n : Int) := by omega
        have hlt0 : (0 : Int) ≤ (k : Int) := by omega
        have hkc : (k : Int) ≤ (cap : Int) := by omega
        obtain ⟨t, ht⟩ := get_th L k (by rw [hn.out]; exact hlt)
        obtain ⟨b, off, rfl, hcc⟩ := (hr.later hb).at ht
        have HT := hid ht
        clear ht
        have hit := hi t (List.mem_of_getElem? HT.out)
        obtain ⟨q, hq⟩ : ∃ q, Hid (isT t = q) := ⟨_, rfl⟩
        have hs := hb.size
        have K0 : Hid ((wr.alloc t.o).heap[wr.heap.size]? = some t.o) := new_at _ _ _ rfl
        cases q
        · have hBt := hid (bytesT_no hq.out)
          have e := h.out
          rw [allT_no (by rw [hn.out]; omega) (by rw [hn.out]; exact hlt) (by rw [okT_eq HT.out, hq.out]; rfl)] at e
          simp only [Prod.mk.injEq] at e
          obtain ⟨rfl, rfl⟩ := e
          go_wp2_with fail
          refine (thing_bytes hBt hit _).mono ?_
          rintro y w2 ⟨rfl, hb2⟩
          have hB2 := below_on (hb.alloc hs t.o) hb2
          clear hb2 hb
          go_wp2_with fail
          exact bodyPost_ret (v := .tuple #[.string ⟨#[]⟩, .int .i64 11]) (by simp [results, Try.results16, go_sem]) rfl ⟨rfl, hB2⟩
        · obtain ⟨B, hB'⟩ : ∃ B, Hid (thB t = B) := ⟨_, rfl⟩
          have lB : B.length ≤ 168 := by rw [← hB'.out]; exact thB_len hq.out
          have hBt : Hid (bytesT t = (B, 0)) := by show bytesT t = _; rw [bytesT_yes hq.out, hB'.out]
          obtain ⟨q2, hq2⟩ : ∃ q, Hid (risesB (L.take k) t = q) := ⟨_, rfl⟩
          have hok : Hid (okT L k = q2) := by show okT L k = q2; rw [okT_eq HT.out, hq.out, hq2.out]; rfl
          have hkk : Hid (k = (L.take k).length) := by show k = _; rw [List.length_take, hn.out]; omega
          have hkm : k ≤ maxLen := by unfold maxLen; omega
          go_wp2_with fail
          refine (thing_bytes hBt hit _).mono ?_
          rintro y w2 ⟨rfl, hb2⟩
          have hB2 := below_on (hb.alloc hs t.o) hb2
          have K2 := hid (var_on hb2 K0.out (at_lt K0.out))
          have l2 := at_lt K2.out
          clear hb2 hb hcc
          have ct := grown_cells K2.out
          have hrk : ∀ d os, RowT (Sort.grow (redrawn w2 d) os) (some ⟨b, off, none⟩) (L.take k) := fun d os => ((hr.later hB2).later (below_regrown w2 d os)).take k
          have hfin : ∀ d os, Hid (Below w.heap.size w (Sort.grow (redrawn w2 d) os)) := fun d os => below_on hB2 (below_regrown w2 d os)
          clear hB2
          go_wp2_with fail
          refine wp_region_quiet_below (by kernel_rfl) (by kernel_rfl) ?_
          repeat (first | go_big_quiet_skip | (go_big_quiet_want; go_big_quiet_op; first | go_big_quiet_on | go_big_quiet_call (exact Calls.regrown_of (thing_rises hq2 hkk (hrk _ _) hkm))))
          refine wpQuiet_nil ?_
          intro _ hw'
          obtain ⟨⟨dq, osq⟩, hw''⟩ := hw'
          subst hw''
          have hB := hfin dq osq
          obtain ⟨W8, hW8⟩ : ∃ W8, Sort.grow (redrawn w2 dq) osq = W8 := ⟨_, rfl⟩
          rw [hW8] at hB ⊢
          clear hW8 ct hrk hfin
          cases q2
          · have e := h.out
            rw [allT_no (by rw [hn.out]; omega) (by rw [hn.out]; exact hlt) hok.out] at e
            simp only [Prod.mk.injEq] at e
            obtain ⟨rfl, rfl⟩ := e
            go_wp2_with fail
            exact bodyPost_ret (v := .tuple #[.string ⟨#[]⟩, .int .i64 11]) (by simp [results, Try.results16, go_sem]) rfl ⟨rfl, hB.out⟩
          · have lAs : (A ++ B).length ≤ 10 + 168 * (k + 1) := by rw [List.length_append]; omega
            go_wp2_with fail
            go_roundw
            case rel =>
              refine ⟨k + 1, A ++ B, by omega, by go_num, by simp [ByteArray.mk_append_mk], ?_, lAs, fun j hj => ?_, hB.out⟩
              · rw [HA.out, take_flat HT.out, hB'.out]; simp
              · by_cases e : j = k
                · subst e; exact hok.out
                · exact HO.out j (by omega)
            case measure => simp [intOf]; omega
      · obtain rfl : k = n := by omega
        have e := h.out
        rw [allT_yes (by rw [hn.out]; omega) (by rw [hn.out]; exact HO.out)] at e
        simp only [Prod.mk.injEq] at e
        obtain ⟨e1, rfl⟩ := e
        have eA : A = S := by rw [HA.out, ← e1, hn.out, ← hn.out, List.take_length]
        subst eA
        clear e1
        go_wp2_with fail
        exact bodyPost_ret (v := .tuple #[.string ⟨A.toArray⟩, .int .i64 0]) (by simp [results, Try.results16, go_sem]) rfl ⟨rfl, hb⟩
end Go.Proofs.Ytlbbdpkbglkmnaa
