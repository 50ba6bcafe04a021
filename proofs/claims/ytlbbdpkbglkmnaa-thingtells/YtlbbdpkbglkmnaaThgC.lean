/- Contract of the reference's AllBytes: all things' bytes one behind the other, or what is wrong. -/
import Derived.Test.YtlbbdpkbglkmnaaThgA
namespace Go.Proofs.Ytlbbdpkbglkmnaa
open Go.RowKit
set_option linter.unusedVariables false
theorem RowT.cells {W : World} {b off : Nat} {L : List Th} (h : RowT W (some ⟨b, off, none⟩) L) {k : Nat} {t : Th} (hk : L[k]? = some t) : cellsT W b (off + k * 11) t := by
  obtain ⟨_, _, e, h⟩ := h.at hk
  simp only [Option.some.injEq, Addr.mk.injEq, and_true] at e
  obtain ⟨rfl, rfl⟩ := e
  exact h
theorem RowT.grown {W : World} {b off : Nat} {L : List Th} (h : RowT W (some ⟨b, off, none⟩) L) {k : Nat} {t : Th} (hk : L[k]? = some t) (d : Nat) (os : Array Obj) : cellsT (Sort.grow (redrawn W d) os) b (off + k * 11) t :=
  (h.later (below_regrown W d os)).cells hk
theorem refput_at {n : Nat} {L : List UInt8} (H : Hid (L = put n)) (h1 : n ≤ 18446744073709551615) (w : World) :
    Calls Try.prog 32 #[.int .u64 n] w fun e w' => e = .returned (.string ⟨L.toArray⟩) ∧ Below w.heap.size w w' := by
  rw [H.out]; exact ref_put n h1 w
theorem rises_prev {L : List Th} {m : Nat} {u t : Th} (hu : L[m]? = some u) : risesB (L.take (m + 1)) t = decide (u.id < t.id) := by
  have hm : m < L.length := (List.getElem?_eq_some_iff.1 hu).1
  exact risesB_one (m := m) (by rw [List.length_take]; omega) (by rw [List.getElem?_take, if_pos (by omega)]; exact hu)
set_option maxHeartbeats 2000000 in
theorem ref_all {w : World} {p : Option Addr} {cap : Nat} {L : List Th} {S : List UInt8} {x : Nat} (h : Hid (allT L = (S, x))) (hr : RowT w p L) (hi : ∀ t ∈ L, inT t) (hc : L.length ≤ cap) (hm : cap ≤ maxLen) :
    Calls Try.prog 17 #[.slice p L.length cap] w fun e w' => e = .returned (.tuple #[.string ⟨S.toArray⟩, .int .i64 x]) ∧ Below w.heap.size w w' := by
  obtain ⟨n, hn⟩ : ∃ n, Hid (L.length = n) := ⟨_, rfl⟩
  rw [hn.out] at hc ⊢
  have hm' : cap ≤ 9223372036854775807 := by unfold maxLen at hm; omega
  clear hm
  by_cases h2 : 200 < n
  · have e := h.out
    rw [allT_large (by rw [hn.out]; exact h2)] at e
    simp only [Prod.mk.injEq] at e
    obtain ⟨rfl, rfl⟩ := e
    clear h
    have h2' : (200 : Int) < (n : Int) := by omega
    go_enter Try.func17, Try.ntmps17
    go_wp2_with fail
    exact bodyPost_ret (v := .tuple #[.string ⟨#[]⟩, .int .i64 13]) (by simp [results, Try.results17, go_sem]) rfl ⟨rfl, Below.refl _ _⟩
  · have h2' : (n : Int) ≤ 200 := by omega
    have h2n : n ≤ 200 := by omega
    clear h2
    obtain ⟨A0, hA0⟩ : ∃ A, Hid (A = put n) := ⟨_, rfl⟩
    have lA0 : A0.length ≤ 10 := by rw [hA0.out]; exact (put_length _).2
    go_enter Try.func17, Try.ntmps17
    go_wp2_with fail
    refine (refput_at hA0 (by omega) _).mono ?_
    rintro y w1 ⟨rfl, hb1⟩
    go_wp2_with fail
    go_loopw [4, 5] (fun s i wr => ∃ (k : Nat) (A : List UInt8), k ≤ n ∧ i = .int .i64 k ∧ s = .string ⟨A.toArray⟩ ∧ A = put n ++ (L.take k).flatMap thB ∧ A.length ≤ 10 + 168 * k ∧ (∀ j, j < k → okT L j = true) ∧ Below w.heap.size w wr) (fun _ i _ => n - (intOf i).toNat)
    case atStart => exact ⟨0, A0, by omega, rfl, rfl, by rw [hA0.out]; simp, by omega, fun j hj => by omega, hb1⟩
    case round =>
      clear hb1 lA0 hA0
      obtain ⟨k, A, hk, rfl, rfl, hA, lA, hok, hb⟩ := hrel
      have HO := hid hok
      have HA := hid hA
      clear hok hA
      by_cases hlt : k < n
      · have hlt' : (k : Int) < (n : Int) := by omega
        have hlt0 : (0 : Int) ≤ (k : Int) := by omega
        obtain ⟨t, ht⟩ := get_th L k (by rw [hn.out]; exact hlt)
        obtain ⟨b, off, rfl, _⟩ := (hr.later hb).at ht
        have HT := hid ht
        clear ht
        have hit := hi t (List.mem_of_getElem? HT.out)
        have hG := (hr.later hb).grown HT.out
        have hfin : ∀ d os, Hid (Below w.heap.size w (Sort.grow (redrawn wr d) os)) := fun d os => below_on hb (below_regrown wr d os)
        obtain ⟨q, hq⟩ : ∃ q, Hid (isT t = q) := ⟨_, rfl⟩
        have hrb := hr.later hb
        clear hb
        cases q
        · have e := h.out
          rw [allT_no (by rw [hn.out]; omega) (by rw [hn.out]; exact hlt) (by rw [okT_eq HT.out, hq.out]; rfl)] at e
          simp only [Prod.mk.injEq] at e
          obtain ⟨rfl, rfl⟩ := e
          go_wp2_with fail
          refine wp_region_quiet_below (by kernel_rfl) (by kernel_rfl) ?_
          repeat (first | go_big_quiet_skip | (go_big_quiet_want; go_big_quiet_op; first | go_big_quiet_on | go_big_quiet_call (exact Calls.regrown_of (refT_at hq _ hit))))
          refine wpQuiet_nil ?_
          intro _ hw'
          obtain ⟨⟨dq, osq⟩, hw''⟩ := hw'
          subst hw''
          have hB := hfin dq osq
          obtain ⟨W8, hW8⟩ : ∃ W8, Sort.grow (redrawn wr dq) osq = W8 := ⟨_, rfl⟩
          rw [hW8] at hB ⊢
          clear hW8 hG hfin hrb
          go_wp2_with fail
          exact bodyPost_ret (v := .tuple #[.string ⟨#[]⟩, .int .i64 11]) (by simp [results, Try.results17, go_sem]) rfl ⟨rfl, hB.out⟩
        · obtain ⟨B, hB'⟩ : ∃ B, Hid (thB t = B) := ⟨_, rfl⟩
          have lB : B.length ≤ 168 := by rw [← hB'.out]; exact thB_len hq.out
          have lAs : (A ++ B).length ≤ 10 + 168 * (k + 1) := by rw [List.length_append]; omega
          obtain ⟨D, hD⟩ : ∃ D, Hid (wholeD t = D) := ⟨_, rfl⟩
          have hDD : Hid (isD D = true) := by show isD D = true; rw [← hD.out, isT_whole]; exact hq.out
          have hfit : ∀ k, fitF (D.f k) := by rw [← hD.out]; exact whole_fit hq.out hit
          have hS : Hid (bytesK D 4 = B) := by show bytesK D 4 = B; rw [← hD.out]; exact hB'.out
          cases k with
          | zero =>
            have hG : ∀ d os, cellsT (Sort.grow (redrawn wr d) os) b off t := fun d os => by have := hG d os; rwa [Nat.zero_mul, Nat.add_zero] at this
            have hok : Hid (okT L 0 = true) := by show okT L 0 = true; rw [okT_eq HT.out, hq.out]; rfl
            go_wp2_with fail
            refine wp_region_quiet_below (by kernel_rfl) (by kernel_rfl) ?_
            repeat (first | go_big_quiet_skip | (go_big_quiet_want; go_big_quiet_op; first | go_big_quiet_on | go_big_quiet_call (exact Calls.regrown_of (refT_at hq _ hit))))
            refine wpQuiet_nil ?_
            intro _ hw'
            obtain ⟨⟨dq, osq⟩, hw''⟩ := hw'
            subst hw''
            have hB := (hfin dq osq).out
            have cc := hG dq osq
            obtain ⟨W8, hW8⟩ : ∃ W8, Sort.grow (redrawn wr dq) osq = W8 := ⟨_, rfl⟩
            rw [hW8] at hB cc ⊢
            clear hW8 hG hfin hrb
            go_wp2_with fail
            refine (ref_full _ t).mono ?_
            rintro y w2 ⟨rfl, hb2⟩
            replace hB := below_on hB hb2
            clear hb2 cc
            rw [hD.out]
            go_wp2_with fail
            refine (ref_bytes _ D hDD.out hfit).mono ?_
            rintro y w3 ⟨rfl, hb3⟩
            replace hB := below_on hB hb3
            clear hb3
            rw [hS.out]
            go_wp2_with fail
            go_roundw
            case rel =>
              refine ⟨0 + 1, A ++ B, by omega, by go_num, by simp [ByteArray.mk_append_mk], ?_, lAs, fun j hj => ?_, hB⟩
              · rw [HA.out, take_flat HT.out, hB'.out]; simp
              · obtain rfl : j = 0 := by omega
                exact hok.out
            case measure => simp [intOf]; omega
          | succ m =>
            obtain ⟨u, hu⟩ := get_th L m (by rw [hn.out]; omega)
            have hU := fun d os => (hrb.grown hu d os).1
            have hok : Hid (okT L (m + 1) = decide (u.id < t.id)) := by show okT L (m + 1) = _; rw [okT_eq HT.out, hq.out, rises_prev hu]; rfl
            clear hu
            have hm0 : (0 : Int) < (m : Int) + 1 := by omega
            have hmn : (m : Int) < (n : Int) := by omega
            have hmm : (0 : Int) ≤ (m : Int) := by omega
            by_cases hut : u.id < t.id
            · have hut' : ¬ t.id ≤ u.id := by omega
              go_wp2_with fail
              refine wp_region_quiet_below (by kernel_rfl) (by kernel_rfl) ?_
              repeat (first | go_big_quiet_skip | (go_big_quiet_want; go_big_quiet_op; first | go_big_quiet_on | go_big_quiet_call (exact Calls.regrown_of (refT_at hq _ hit))))
              refine wpQuiet_nil ?_
              intro _ hw'
              obtain ⟨⟨dq, osq⟩, hw''⟩ := hw'
              subst hw''
              have hB := (hfin dq osq).out
              have cc := hG dq osq
              obtain ⟨W8, hW8⟩ : ∃ W8, Sort.grow (redrawn wr dq) osq = W8 := ⟨_, rfl⟩
              rw [hW8] at hB cc ⊢
              clear hW8 hG hfin hrb hU
              go_wp2_with fail
              refine (ref_full _ t).mono ?_
              rintro y w2 ⟨rfl, hb2⟩
              replace hB := below_on hB hb2
              clear hb2 cc
              rw [hD.out]
              go_wp2_with fail
              refine (ref_bytes _ D hDD.out hfit).mono ?_
              rintro y w3 ⟨rfl, hb3⟩
              replace hB := below_on hB hb3
              clear hb3
              rw [hS.out]
              go_wp2_with fail
              go_roundw
              case rel =>
                refine ⟨m + 1 + 1, A ++ B, by omega, by go_num, by simp [ByteArray.mk_append_mk], ?_, lAs, fun j hj => ?_, hB⟩
                · rw [HA.out, take_flat HT.out, hB'.out]; simp
                · by_cases e : j = m + 1
                  · subst e; rw [hok.out]; simpa using hut
                  · exact HO.out j (by omega)
              case measure => simp [intOf]; omega
            · have hut' : t.id ≤ u.id := by omega
              have e := h.out
              rw [allT_no (by rw [hn.out]; omega) (by rw [hn.out]; exact hlt) (by rw [hok.out]; simpa using hut')] at e
              simp only [Prod.mk.injEq] at e
              obtain ⟨rfl, rfl⟩ := e
              go_wp2_with fail
              refine wp_region_quiet_below (by kernel_rfl) (by kernel_rfl) ?_
              repeat (first | go_big_quiet_skip | (go_big_quiet_want; go_big_quiet_op; first | go_big_quiet_on | go_big_quiet_call (exact Calls.regrown_of (refT_at hq _ hit))))
              refine wpQuiet_nil ?_
              intro _ hw'
              obtain ⟨⟨dq, osq⟩, hw''⟩ := hw'
              subst hw''
              have hB := hfin dq osq
              obtain ⟨W8, hW8⟩ : ∃ W8, Sort.grow (redrawn wr dq) osq = W8 := ⟨_, rfl⟩
              rw [hW8] at hB ⊢
              clear hW8 hG hfin hrb hU
              go_wp2_with fail
              exact bodyPost_ret (v := .tuple #[.string ⟨#[]⟩, .int .i64 11]) (by simp [results, Try.results17, go_sem]) rfl ⟨rfl, hB.out⟩
      · obtain rfl : k = n := by omega
        have e := h.out
        rw [allT_yes (by rw [hn.out]; omega) (by rw [hn.out]; exact HO.out)] at e
        simp only [Prod.mk.injEq] at e
        obtain ⟨e1, rfl⟩ := e
        have eA : A = S := by rw [HA.out, ← e1, hn.out, ← hn.out, List.take_length]
        subst eA
        clear e1
        go_wp2_with fail
        exact bodyPost_ret (v := .tuple #[.string ⟨A.toArray⟩, .int .i64 0]) (by simp [results, Try.results17, go_sem]) rfl ⟨rfl, hb⟩
end Go.Proofs.Ytlbbdpkbglkmnaa
