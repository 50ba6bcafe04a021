/- Contract of Bytes of the package event. -/
import Derived.Test.YtkklchobiiajgaaEvD
namespace Go.Proofs.Ytkklchobiiajgaa
open Go.RowKit
set_option linter.unusedVariables false
abbrev zeroEO : Obj := .cells #[.int .i64 0, .int .i64 0, .int .i64 0, .int .i64 0, .int .i64 0, .int .i64 0, .string ⟨#[]⟩, .int .i64 0, .string ⟨#[]⟩, .int .i64 0, .string ⟨#[]⟩, .int .i64 0, .string ⟨#[]⟩, .int .i64 0, .int .u8 0, .int .i64 0, .int .i64 0, .int .i64 0, .string ⟨#[]⟩, .int .i64 0, .string ⟨#[]⟩, .int .i64 0, .string ⟨#[]⟩, .int .i64 0, .string ⟨#[]⟩] 47 (0, 0)
theorem new_zeroE (W : World) : (W.alloc zeroEO).heap[W.heap.size]? = some zE.o := new_at _ _ _ rfl
theorem esB_no {L : List Ev} (h : L.all isE = false) : esB L = ([], 11) := by unfold esB; rw [if_neg (by simp [h])]
theorem esB_large {L : List Ev} (h : L.all isE = true) (hl : 400 < L.length) : esB L = ([], 13) := by unfold esB; rw [if_pos h, if_pos hl]
theorem esB_yes {L : List Ev} (h : L.all isE = true) (hl : L.length ≤ 400) : esB L = (put L.length ++ L.flatMap evB, 0) := by unfold esB; rw [if_pos h, if_neg (by omega)]
theorem take_flatEv {L : List Ev} {k : Nat} {t : Ev} (h : L[k]? = some t) : (L.take (k + 1)).flatMap evB = (L.take k).flatMap evB ++ evB t := by
  rw [take_es h]; simp
theorem kind_wrap {e : Ev} (h : isE e = true) : 0 ≤ e.k ∧ e.k ≤ 1000000 ∧ IntKind.u64.wrap e.k = e.k := by
  rcases isE_kind h with k | k | k <;> rw [k] <;> exact ⟨by decide, by decide, by decide⟩
set_option maxRecDepth 100000 in
set_option maxHeartbeats 4000000 in
theorem event_bytes {w : World} {p : Option Addr} {cap n : Nat} {L : List Ev} {S : List UInt8} {x : Nat} (h : Hid (esB L = (S, x))) (hr : RowE w p L) (hi : ∀ t ∈ L, inE t) (hn : Hid (L.length = n)) (hm : n ≤ 1000) :
    Calls Try.prog 12 #[.slice p n cap] w fun e w' => e = .returned (.tuple #[.string ⟨S.toArray⟩, .int .i64 x]) ∧ Below w.heap.size w w' := by
  obtain ⟨q, hq⟩ : ∃ q, Hid (L.all isE = q) := ⟨_, rfl⟩
  have HC := ev_contains w p cap hr hn hm hi hq
  have HR := hid hr
  clear hr
  cases q
  · have e := h.out
    rw [esB_no hq.out] at e
    simp only [Prod.mk.injEq] at e
    obtain ⟨rfl, rfl⟩ := e
    clear h hq
    go_enter Try.func12, Try.ntmps12
    go_wp2_with fail
    refine HC.mono ?_
    rintro y w1 ⟨rfl, hb1⟩
    clear HC
    go_wp2_with fail
    exact bodyPost_ret (v := .tuple #[.string ⟨#[]⟩, .int .i64 11]) (by simp [results, Try.results12, go_sem]) rfl ⟨rfl, hb1⟩
  · by_cases h2 : 400 < n
    · have e := h.out
      rw [esB_large hq.out (by rw [hn.out]; exact h2)] at e
      simp only [Prod.mk.injEq] at e
      obtain ⟨rfl, rfl⟩ := e
      clear h hq
      have h2' : (400 : Int) < (n : Int) := by omega
      go_enter Try.func12, Try.ntmps12
      go_wp2_with fail
      refine HC.mono ?_
      rintro y w1 ⟨rfl, hb1⟩
      clear HC
      go_wp2_with fail
      exact bodyPost_ret (v := .tuple #[.string ⟨#[]⟩, .int .i64 13]) (by simp [results, Try.results12, go_sem]) rfl ⟨rfl, hb1⟩
    · have h2' : (n : Int) ≤ 400 := by omega
      have h2n : n ≤ 400 := by omega
      have hA : ∀ t ∈ L, isE t = true := fun t ht => List.all_eq_true.1 hq.out t ht
      have eS := h.out
      rw [esB_yes hq.out (by rw [hn.out]; exact h2n), hn.out] at eS
      simp only [Prod.mk.injEq] at eS
      obtain ⟨eS, rfl⟩ := eS
      have ES := hid eS
      clear h h2 hq eS
      obtain ⟨A0, hA0⟩ : ∃ A, Hid (A = put n) := ⟨_, rfl⟩
      have lA0 : A0.length ≤ 10 := by rw [hA0.out]; exact (put_length _).2
      go_enter Try.func12, Try.ntmps12
      go_wp2_with fail
      refine HC.mono ?_
      rintro y w0 ⟨rfl, hb0⟩
      clear HC
      go_wp2_with fail
      refine (put_at hA0 (by omega) _).mono ?_
      rintro y w1 ⟨rfl, hb1⟩
      have hB1 := below_on hb0 hb1
      clear hb0 hb1
      go_wp2_with fail
      go_loopw [4, 18] (fun s i wr => ∃ (k : Nat) (A : List UInt8), k ≤ n ∧ i = .int .i64 k ∧ s = .string ⟨A.toArray⟩ ∧ Hid (A = put n ++ (L.take k).flatMap evB) ∧ A.length ≤ 10 + 178 * k ∧ Below w.heap.size w wr) (fun _ i _ => n - (intOf i).toNat)
      case atStart => exact ⟨0, A0, by omega, rfl, rfl, hid (by rw [hA0.out]; simp), by omega, hB1⟩
      case round =>
        clear hB1 lA0 hA0
        obtain ⟨k, A, hk, rfl, rfl, HA, lA, hb⟩ := hrel
        by_cases hlt : k < n
        · have hlt' : (k : Int) < (n : Int) := by omega
          obtain ⟨t, ht⟩ := get_some L k (by rw [hn.out]; exact hlt)
          obtain ⟨b, off, rfl, hcc⟩ := (HR.out.later hb).at ht
          have HT := hid ht
          have HG := hid hcc
          have hit := hi t (List.mem_of_getElem? ht)
          have hst := hA t (List.mem_of_getElem? ht)
          clear ht hcc
          have hs := hb.size
          obtain ⟨B, hB'⟩ : ∃ B, Hid (toldE t = B) := ⟨_, rfl⟩
          have lB : B.length ≤ 168 := by rw [← hB'.out]; exact toldE_len hst
          obtain ⟨P, hP⟩ : ∃ P, Hid (put t.k.toNat = P) := ⟨_, rfl⟩
          have lP : P.length ≤ 10 := by rw [← hP.out]; exact (put_length _).2
          have hev : Hid (evB t = P ++ B) := by show evB t = _; unfold evB; rw [hP.out, hB'.out]
          have HB := fun w => event_told hst hB' hit w
          obtain ⟨k1, k2, k3⟩ := kind_wrap hst
          have HP : ∀ w : World, Calls Try.prog 29 #[.int .u64 t.k] w fun e w' => e = .returned (.string ⟨P.toArray⟩) ∧ Below w.heap.size w w' := fun w => by
            have := put_int t.k k1 k2 w
            rw [hP.out] at this
            exact this
          have HP' : ∀ w : World, Calls Try.prog 29 #[.int .u64 (IntKind.u64.wrap t.k)] w fun e w' => e = .returned (.string ⟨P.toArray⟩) ∧ Below w.heap.size w w' := fun w => by rw [k3]; exact HP w
          have lPB : (P ++ B).length ≤ 178 := by rw [List.length_append]; omega
          have lAs : (A ++ (P ++ B)).length ≤ 10 + 178 * (k + 1) := by rw [List.length_append]; omega
          clear hst hit k1 k2
          go_upto_region 9 with (first
            | with_reducible refine wpList_load_mid_ev rfl (.tmp 20) rfl rfl HG.out ?_
            | ((with_reducible refine wpList_store_ev (c := t) rfl (.tmp 6) (.tmp 21) rfl rfl rfl (new_zeroE _) ?_); intro W3 h3 b3 s3))
          have hB3 := b3.below (hb.alloc hs _) hs
          have K3 := hid h3
          clear HG hb b3 s3 h3
          have c := grown_cells K3.out
          have hG : ∀ W', (∃ p : Regrown, W' = Sort.grow (redrawn W3 p.d) p.os) → W'.heap[wr.heap.size]? = some t.o := fun W' ⟨p, e⟩ => by rw [e]; exact var_on (below_regrown W3 p.d p.os) K3.out (at_lt K3.out)
          have hfin : ∀ d os, Hid (Below w.heap.size w (Sort.grow (redrawn W3 d) os)) := fun d os => below_on hB3 (below_regrown W3 d os)
          simp only [Act.put]
          refine wp_region_quiet_below (by kernel_rfl) (by kernel_rfl) ?_
          repeat (first | go_big_quiet_skip | ((with_reducible refine quiet_load_ev ?_ (.tmp 6) rfl rfl hG ?_); (· rfl); simp only [Act.put, List.setIfInBounds_toArray, List.set_cons_zero, List.set_cons_succ]) | (go_big_quiet_want; go_big_quiet_op; first | go_big_quiet_on | go_big_quiet_call (first | with_reducible exact Calls.regrown_of (HP _) | with_reducible exact Calls.regrown_of (HP' _) | with_reducible exact Calls.regrown_of (HB _))))
          refine wpQuiet_nil ?_
          intro _ hw'
          obtain ⟨⟨dq, osq⟩, hw''⟩ := hw'
          subst hw''
          have hB := hfin dq osq
          obtain ⟨W8, hW8⟩ : ∃ W8, Sort.grow (redrawn W3 dq) osq = W8 := ⟨_, rfl⟩
          rw [hW8] at hB ⊢
          clear hW8 c hG hfin hB3 K3
          go_wp2_with fail
          go_roundw
          case rel =>
            refine ⟨k + 1, A ++ (P ++ B), by omega, by go_num, by simp [ByteArray.mk_append_mk], hid ?_, lAs, hB.out⟩
            rw [HA.out, take_flatEv HT.out, hev.out]; simp
          case measure => simp [intOf]; omega
        · obtain rfl : k = n := by omega
          have hlt' : ¬ (k : Int) < (k : Int) := by omega
          have eA : A = S := by rw [HA.out, ← ES.out, List.take_of_length_le (by rw [hn.out]; omega)]
          subst eA
          go_wp2_with fail
          exact bodyPost_ret (v := .tuple #[.string ⟨A.toArray⟩, .int .i64 0]) (by simp [results, Try.results12, go_sem]) rfl ⟨rfl, hb⟩
end Go.Proofs.Ytkklchobiiajgaa
