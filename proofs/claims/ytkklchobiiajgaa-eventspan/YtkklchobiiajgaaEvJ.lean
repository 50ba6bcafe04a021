/- Contract of Bytes of the reference. -/
import Derived.Test.YtkklchobiiajgaaEvB
import Derived.Test.YtkklchobiiajgaaEvE
namespace Go.Proofs.Ytkklchobiiajgaa
open Go.RowKit
set_option linter.unusedVariables false
theorem Try.sizeT11 : (Try.prog.info? 43).map (·.size) = some 11 := by kernel_rfl
theorem Try.sizeD12 : (Try.prog.info? 45).map (·.size) = some 12 := by kernel_rfl
theorem wpList_load_mid_th {ops : Array Oper} {rest : List Oper} {o : Oper} {a : Act} {W : World} {Q : Exit → Act → World → Prop} (hgd : o.guard = none) (x : Operand) (ho : o.op = .load 43 x)
    {b p : Nat} {c : Th} (hx : a.eval x = .pointer (some ⟨b, p, none⟩)) (h : W.rangeAt b p c.cs) (k : wpList Try.prog ops Q rest (a.put o.dst c.v) W) : wpList Try.prog ops Q (o :: rest) a W :=
  wpList_load_mid hgd _ x ho b p hx c.cs _ h Try.underlying43 rfl Try.sizeT11 k
theorem wpList_load_mid_dl {ops : Array Oper} {rest : List Oper} {o : Oper} {a : Act} {W : World} {Q : Exit → Act → World → Prop} (hgd : o.guard = none) (x : Operand) (ho : o.op = .load 45 x)
    {b p : Nat} {c : Dl} (hx : a.eval x = .pointer (some ⟨b, p, none⟩)) (h : W.rangeAt b p c.cs) (k : wpList Try.prog ops Q rest (a.put o.dst c.v) W) : wpList Try.prog ops Q (o :: rest) a W :=
  wpList_load_mid hgd _ x ho b p hx c.cs _ h Try.underlying45 rfl Try.sizeD12 k
/-- an event in the middle of a row, part by part -/
theorem range_parts {W : World} {b o : Nat} {e : Ev} (h : W.rangeAt b o e.cs) : W.cell? ⟨b, o, none⟩ = some (.int .i64 e.k) ∧ W.cell? ⟨b, o + 1, none⟩ = some (.int .i64 e.i) ∧ W.rangeAt b (o + 2) e.t.cs ∧ W.rangeAt b (o + 13) e.d.cs := by
  refine ⟨h 0 _ rfl, h 1 _ rfl, fun j v hv => ?_, fun j v hv => ?_⟩
  · have hj : j < 11 := by have := (List.getElem?_eq_some_iff.1 hv).1; rwa [Th.z] at this
    have e1 : e.cs = [.int .i64 e.k, .int .i64 e.i] ++ (e.t.cs ++ e.d.cs) := rfl
    have := h (2 + j) v (by rw [e1, List.getElem?_append_right (by simp), List.getElem?_append_left (by simp [Th.z]; omega)]; simpa using hv)
    rwa [← Nat.add_assoc] at this
  · have e1 : e.cs = ([.int .i64 e.k, .int .i64 e.i] ++ e.t.cs) ++ e.d.cs := rfl
    have := h (13 + j) v (by rw [e1, List.getElem?_append_right (by simp [Th.z])]; simpa [Th.z] using hv)
    rwa [← Nat.add_assoc] at this
set_option maxRecDepth 100000 in
set_option maxHeartbeats 4000000 in
theorem refev_bytes {w : World} {p : Option Addr} {cap n : Nat} {L : List Ev} {S : List UInt8} {x : Nat} (h : Hid (esB L = (S, x))) (hr : RowE w p L) (hi : ∀ t ∈ L, inE t) (hn : Hid (L.length = n)) (hm : n ≤ 1000) :
    Calls Try.prog 13 #[.slice p n cap] w fun e w' => e = .returned (.tuple #[.string ⟨S.toArray⟩, .int .i64 x]) ∧ Below w.heap.size w w' := by
  have HR := hid hr
  clear hr
  go_enter Try.func13, Try.ntmps13
  go_wp2_with fail
  go_loopw [4] (fun i wr => ∃ k : Nat, k ≤ n ∧ i = .int .i64 k ∧ Hid (∀ j e, j < k → L[j]? = some e → isE e = true) ∧ Below w.heap.size w wr) (fun i _ => n - (intOf i).toNat)
  case atStart => exact ⟨0, by omega, rfl, hid (fun j t hj => by omega), Below.refl _ _⟩
  case round =>
    obtain ⟨k, hk, rfl, HO, hb⟩ := hrel
    by_cases hlt : k < n
    · have hlt' : (k : Int) < (n : Int) := by omega
      obtain ⟨t, ht⟩ := get_some L k (by rw [hn.out]; exact hlt)
      obtain ⟨b, off, rfl, hc⟩ := (HR.out.later hb).at ht
      have HT := hid ht
      have HC := hid hc
      clear ht hc
      obtain ⟨r, hr⟩ : ∃ r, Hid (isE t = r) := ⟨_, rfl⟩
      have hit := hi t (List.mem_of_getElem? HT.out)
      go_wp2_with ((with_reducible refine wpList_load_mid_ev rfl (.tmp 15) rfl rfl HC.out ?_))
      refine (refev_is hr hit _).mono ?_
      rintro y w2 ⟨rfl, hb2⟩
      have hB2 := below_on hb hb2
      clear hb2 hb HC
      cases r
      · have e := h.out
        rw [esB_no (all_no HT.out hr.out)] at e
        simp only [Prod.mk.injEq] at e
        obtain ⟨rfl, rfl⟩ := e
        go_wp2_with fail
        exact bodyPost_ret (v := .tuple #[.string ⟨#[]⟩, .int .i64 11]) (by simp [results, Try.results13, go_sem]) rfl ⟨rfl, hB2⟩
      · have e := hid (all_step HO.out HT.out hr.out)
        go_wp2_with fail
        go_roundw
        case rel => exact ⟨k + 1, by omega, by go_num, e, hB2⟩
        case measure => simp [intOf]; omega
    · obtain rfl : k = n := by omega
      have hlt' : ¬ (k : Int) < (k : Int) := by omega
      have hall := hid (all_yes hn.out HO.out)
      by_cases h2 : 400 < k
      · have e := h.out
        rw [esB_large hall.out (by rw [hn.out]; exact h2)] at e
        simp only [Prod.mk.injEq] at e
        obtain ⟨rfl, rfl⟩ := e
        have h2' : (400 : Int) < (k : Int) := by omega
        go_wp2_with fail
        exact bodyPost_ret (v := .tuple #[.string ⟨#[]⟩, .int .i64 13]) (by simp [results, Try.results13, go_sem]) rfl ⟨rfl, hb⟩
      · have h2' : (k : Int) ≤ 400 := by omega
        have h2n : k ≤ 400 := by omega
        have hA : ∀ t ∈ L, isE t = true := fun t ht => List.all_eq_true.1 hall.out t ht
        have eS := h.out
        rw [esB_yes hall.out (by rw [hn.out]; exact h2n), hn.out] at eS
        simp only [Prod.mk.injEq] at eS
        obtain ⟨eS, rfl⟩ := eS
        have ES := hid eS
        have HB0 := hid hb
        clear h2 eS hlt' hb HO hall
        obtain ⟨A0, hA0⟩ : ∃ A, Hid (put k = A) := ⟨_, rfl⟩
        have lA0 : A0.length ≤ 10 := by rw [← hA0.out]; exact (put_length _).2
        have P0 := fun w => ref_put k (by omega) w
        rw [hA0.out] at P0
        go_wp2_with fail
        refine (P0 _).mono ?_
        rintro y w1 ⟨rfl, hb1⟩
        have hB1 := below_on HB0.out hb1
        clear hb1 P0
        obtain ⟨n, hkn⟩ : ∃ n, Hid (k = n) := ⟨_, rfl⟩
        rw [hkn.out] at hn hm h2' h2n hA0 ES ⊢
        go_wp2_with fail
        go_loopw [5, 6] (fun s i wr => ∃ (k : Nat) (A : List UInt8), k ≤ n ∧ i = .int .i64 k ∧ s = .string ⟨A.toArray⟩ ∧ Hid (A = put n ++ (L.take k).flatMap evB) ∧ A.length ≤ 10 + 178 * k ∧ Below w.heap.size w wr) (fun _ i _ => n - (intOf i).toNat)
        case atStart => exact ⟨0, A0, by omega, rfl, rfl, hid (by rw [← hA0.out]; simp), by omega, hB1⟩
        case round =>
          clear hB1 lA0 hA0
          obtain ⟨k, A, hk, rfl, rfl, HA, lA, hb⟩ := hrel
          by_cases hlt : k < n
          · have hlt' : (k : Int) < (n : Int) := by omega
            obtain ⟨t, ht⟩ := get_some L k (by rw [hn.out]; exact hlt)
            obtain ⟨b, off, rfl, hcc⟩ := (HR.out.later hb).at ht
            have HT := hid ht
            have HG := hid hcc
            have hit := hi t (List.mem_of_getElem? ht)
            have hst := hA t (List.mem_of_getElem? ht)
            obtain ⟨n0, -, -, -⟩ := range_parts hcc
            clear ht hcc
            obtain ⟨B, hB'⟩ : ∃ B, Hid (toldE t = B) := ⟨_, rfl⟩
            have lB : B.length ≤ 168 := by rw [← hB'.out]; exact toldE_len hst
            obtain ⟨P, hP⟩ : ∃ P, Hid (put t.k.toNat = P) := ⟨_, rfl⟩
            have lP : P.length ≤ 10 := by rw [← hP.out]; exact (put_length _).2
            have hev : Hid (evB t = P ++ B) := by show evB t = _; unfold evB; rw [hP.out, hB'.out]
            obtain ⟨k1, k2, k3⟩ := kind_wrap hst
            have HP : ∀ w : World, Calls Try.prog 31 #[.int .u64 t.k] w fun e w' => e = .returned (.string ⟨P.toArray⟩) ∧ Below w.heap.size w w' := fun w => by
              have := refput_int t.k k1 k2 w
              rw [hP.out] at this
              exact this
            have lAP : (A ++ P).length ≤ 20 + 178 * k := by rw [List.length_append]; omega
            have lAs : (A ++ P ++ B).length ≤ 10 + 178 * (k + 1) := by rw [List.length_append, List.length_append]; omega
            clear k1 k2
            go_wp2_with fail
            refine (HP _).mono ?_
            rintro y w2 ⟨rfl, hb2⟩
            have hB2 := below_on hb hb2
            obtain ⟨n0, n1, nT, nD⟩ := range_parts (range_on HG.out hb2)
            clear hb2 hb HG HP
            rcases isE_kind hst with kk | kk | kk
            · have e1 : (t.k == 1) = true := by simp [kk]
              have hB2' : toldE t = thB t.t := toldE_1 kk
              have ist := (is_enter hst kk).1
              have BT := fun w => ref_bytes w (wholeD t.t) (by rw [isT_whole]; exact ist) (whole_fit ist hit.1)
              rw [show bytesK (wholeD t.t) 4 = B by rw [← hB'.out, hB2']; rfl] at BT
              clear kk ist hB2'
              go_wp2_with ((with_reducible refine wpList_load_mid_th rfl (.tmp 61) rfl rfl nT ?_))
              refine (ref_full _ _).mono ?_
              rintro y w3 ⟨rfl, hb3⟩
              have hB3 := below_on hB2 hb3
              clear hb3 hB2
              go_wp2_with fail
              refine (BT _).mono ?_
              rintro y w4 ⟨rfl, hb4⟩
              have hB4 := below_on hB3 hb4
              clear hb4 hB3 BT
              go_wp2_with fail
              go_roundw
              case rel =>
                refine ⟨k + 1, A ++ P ++ B, by omega, by go_num, by simp [ByteArray.mk_append_mk], hid ?_, lAs, hB4⟩
                rw [HA.out, take_flatEv HT.out, hev.out]; simp
              case measure => simp [intOf]; omega
            · have e1 : (t.k == 1) = false := by simp [kk]
              have e2 : (t.k == 2) = true := by simp [kk]
              have hB2' : toldE t = bytesK t.d 4 := toldE_2 kk
              have ist := (is_update hst kk).1
              have BT := fun w => ref_bytes w t.d ist (dl_fit ist hit.2)
              rw [← hB2', hB'.out] at BT
              clear kk ist hB2'
              go_wp2_with ((with_reducible refine wpList_load_mid_dl rfl (.tmp 72) rfl rfl nD ?_))
              refine (BT _).mono ?_
              rintro y w4 ⟨rfl, hb4⟩
              have hB4 := below_on hB2 hb4
              clear hb4 hB2 BT
              go_wp2_with fail
              go_roundw
              case rel =>
                refine ⟨k + 1, A ++ P ++ B, by omega, by go_num, by simp [ByteArray.mk_append_mk], hid ?_, lAs, hB4⟩
                rw [HA.out, take_flatEv HT.out, hev.out]; simp
              case measure => simp [intOf]; omega
            · have e1 : (t.k == 1) = false := by simp [kk]
              have e2 : (t.k == 2) = false := by simp [kk]
              obtain ⟨l1, l2, -⟩ := is_leave hst kk
              have hw : IntKind.u64.wrap t.i = t.i := by show t.i % 18446744073709551616 = t.i; omega
              have BT := fun w => refput_int t.i l1 l2 w
              rw [← toldE_3 kk, hB'.out] at BT
              clear kk l1 l2
              go_wp2_with fail
              refine (BT _).mono ?_
              rintro y w4 ⟨rfl, hb4⟩
              have hB4 := below_on hB2 hb4
              clear hb4 hB2 BT
              go_wp2_with fail
              go_roundw
              case rel =>
                refine ⟨k + 1, A ++ P ++ B, by omega, by go_num, by simp [ByteArray.mk_append_mk], hid ?_, lAs, hB4⟩
                rw [HA.out, take_flatEv HT.out, hev.out]; simp
              case measure => simp [intOf]; omega
          · obtain rfl : k = n := by omega
            have hlt' : ¬ (k : Int) < (k : Int) := by omega
            have eA : A = S := by rw [HA.out, ← ES.out, List.take_of_length_le (by rw [hn.out]; omega)]
            subst eA
            go_wp2_with fail
            exact bodyPost_ret (v := .tuple #[.string ⟨A.toArray⟩, .int .i64 0]) (by simp [results, Try.results13, go_sem]) rfl ⟨rfl, hb⟩
end Go.Proofs.Ytkklchobiiajgaa
