/- For every row of texts and every text behind them SumRows returns true, and each argument reads behind the call as before it: frames one behind the other are opened in their order, the rest is left. No conditions. -/
import Derived.Test.YtcolllffjlahbaaKnown2
import Derived.Test.YtcolllffjlahbaaSumP2
import Derived.Test.YtcolllffjlahbaaRowIn
import Derived.ProofKit
import Derived.OpenShut
import Derived.ShutString
import Derived.ChangeOld
import Derived.Below
import Derived.SizedLaws
namespace Go.Proofs.Ytcolllffjlahbaa
open Go.ChangeShapes Go.WideShapes Go.ChangeAt Go.RowKit
open Go.ChangeMaps (open_string shut_string)
set_option linter.unusedVariables false

def cat (l : List ByteArray) : List UInt8 := l.flatMap fun s => wrap s.data.toList
theorem wrap_len (s : ByteArray) (h : s.size ≤ 200) : (wrap s.data.toList).length ≤ 214 := by
  have := (put_length s.data.toList.length).2
  rw [wrap_length]
  unfold text
  rw [List.length_append]
  show _ + s.size + 4 ≤ _
  omega
theorem cat_len (l : List ByteArray) (h : ∀ s ∈ l, s.size ≤ 200) : (cat l).length ≤ 214 * l.length := flat_len _ 214 l fun x hx => wrap_len x (h x hx)
theorem cat_get (ts : List ByteArray) (R : List UInt8) (k : Nat) (h : k < ts.length) (hb : ts[k].size ≤ 200) : unwrap ((cat ts ++ R).drop (cat (ts.take k)).length) = (ts[k].data.toList, (wrap ts[k].data.toList).length, 0) := by
  unfold cat
  rw [flat_drop _ ts k h R]
  exact unwrap_wrap _ _ (by show ts[k].size ≤ _; omega)
theorem cat_succ (ts : List ByteArray) (k : Nat) (h : k < ts.length) : cat (ts.take (k + 1)) = cat (ts.take k) ++ wrap ts[k].data.toList := flat_succ _ ts k h
theorem cat_take_le (ts : List ByteArray) (k : Nat) : (cat (ts.take k)).length ≤ (cat ts).length := flat_take_le _ ts k
set_option maxRecDepth 100000 in
set_option maxHeartbeats 2000000 in
theorem sumRows_walk (w : World) (a0 : Option Addr) (len0 cap0 : Nat) (ts : List ByteArray) (ht : ts.length = len0) (htb : ∀ s ∈ ts, s.size ≤ maxLen) (hr : RowIs w a0 (strs' ts)) (hl0 : len0 ≤ maxLen) (a1 : ByteArray) (w1 : a1.size ≤ maxLen) :
    Calls Try.prog 6 #[.slice a0 len0 cap0, .string a1] w fun e w' => e = .returned (.bool true) ∧ Below w.heap.size w w' := by
  unfold maxLen at hl0 w1
  by_cases h20 : 12 < len0
  · go_enter Try.func6, Try.ntmps6
    go_wp2_with fail
    refine (known2 _).mono ?_
    rintro x w1 ⟨rfl, hb1⟩
    go_wp2
    go_ret
    exact ⟨rfl, hb1⟩
  by_cases h21 : 50 < a1.size
  · go_enter Try.func6, Try.ntmps6
    go_wp2_with fail
    refine (known2 _).mono ?_
    rintro x w1 ⟨rfl, hb1⟩
    go_wp2
    go_ret
    exact ⟨rfl, hb1⟩
  have HT : Hid (ts.length = len0) := ht
  have HTB : Hid (∀ s ∈ ts, s.size ≤ maxLen) := htb
  clear ht htb
  go_enter Try.func6, Try.ntmps6
  go_wp2_with fail
  refine (known2 _).mono ?_
  rintro x w2 ⟨rfl, hb1⟩
  go_wp2
  go_loopw [5, 6] (fun s i wr => ∃ j : Nat, i = .int .i64 j ∧ j ≤ len0 ∧ s = .string ⟨(cat (ts.take j)).toArray⟩ ∧ (∀ t ∈ ts.take j, t.size ≤ 200) ∧ Below w.heap.size w wr) (fun _ i _ => len0 - (intOf i).toNat)
  case atStart => exact ⟨0, rfl, by omega, by simp [cat], by simp, hb1⟩
  case round =>
    clear hb1
    obtain ⟨j, rfl, hj, rfl, hts, hb⟩ := hrel
    have hcl : (cat (ts.take j)).length ≤ 2568 := by
      have := cat_len (ts.take j) hts
      rw [List.length_take] at this
      omega
    by_cases hlt : j < len0
    · have hlt' : j < ts.length := by rw [HT.out]; exact hlt
      obtain ⟨t, htj⟩ : ∃ t, t = ts[j] := ⟨_, rfl⟩
      have htb : t.size ≤ 2 ^ 63 - 1 := by rw [htj]; exact HTB.out _ (List.getElem_mem _)
      obtain ⟨b, off, rfl, hc⟩ := (hr.later hb).at (i := j) (v := .string t) (by simp [strs', htj, hlt'])
      have HN : Hid (t = ts[j]) := htj
      have HTS : Hid (∀ t ∈ ts.take j, t.size ≤ 200) := hts
      clear htj hts
      obtain ⟨B, hB⟩ : ∃ B, B = cat (ts.take j) := ⟨_, rfl⟩
      rw [← hB] at hcl ⊢
      have HB : Hid (B = cat (ts.take j)) := hB
      clear hB
      by_cases h200 : 200 < t.size
      · go_wp2
        go_ret
        exact ⟨rfl, hb⟩
      · obtain ⟨L, hL⟩ : ∃ L, L = wrap t.data.toList := ⟨_, rfl⟩
        have hLl : L.length ≤ 214 := by rw [hL]; exact wrap_len t (by omega)
        have HL : Hid (L = wrap t.data.toList) := hL
        clear hL
        go_wp2_with fail
        refine (wrap_at HL (by omega) _).mono ?_
        rintro x w3 ⟨rfl, hb2⟩
        go_wp2
        go_roundw
        case rel =>
          refine ⟨j + 1, by go_num, by omega, ?_, ?_, hb.trans (hb2.mono hb.size)⟩
          · rw [ByteArray.mk_append_mk, HB.out, HL.out, HN.out, cat_succ ts j hlt']
          · intro t' ht'
            rw [List.take_succ_eq_append_getElem hlt', List.mem_append, List.mem_singleton] at ht'
            rcases ht' with h | h
            · exact HTS.out t' h
            · rw [h, ← HN.out]; omega
        case measure => simp [intOf]; omega
    · obtain rfl : j = len0 := by omega
      rw [List.take_of_length_le (by rw [HT.out]; omega)] at hts hcl ⊢
      clear hlt hj
      obtain ⟨A, hA⟩ : ∃ A, A = cat ts := ⟨_, rfl⟩
      rw [← hA] at hcl ⊢
      have HA : Hid (A = cat ts) := hA
      obtain ⟨S, hS⟩ : ∃ S, S = A ++ a1.data.toList := ⟨_, rfl⟩
      have hSl : S.length = A.length + a1.size := by rw [hS, List.length_append]; rfl
      have hS1 : A.length ≤ S.length := by omega
      have hS2 : S.length ≤ 2618 := by omega
      have hSe : ((⟨S.toArray⟩ : ByteArray).extract A.length S.length) = a1 := by
        apply Go.WideShapes.bytes_inj
        rw [extract_tail, hS, List.drop_left]
      have HSE : Hid (((⟨S.toArray⟩ : ByteArray).extract A.length S.length) = a1) := hSe
      clear hSl hSe
      have hSa : (⟨A.toArray⟩ : ByteArray) ++ a1 = ⟨S.toArray⟩ := by rw [hS]; exact ByteArray.mk_append_mk A a1.data.toList
      have HS : Hid (S = A ++ a1.data.toList) := hS
      have HTS : Hid (∀ t ∈ ts, t.size ≤ 200) := hts
      clear hS hts hA
      have hbB := hb
      clear hb
      go_wp2_with fail
      go_loopw [7, 8] (fun a i wr => ∃ i' p : Nat, i = .int .i64 i' ∧ i' ≤ j ∧ a = .int .i64 p ∧ p = (cat (ts.take i')).length ∧ Below w.heap.size w wr) (fun _ i _ => j - (intOf i).toNat)
      case atStart => exact ⟨0, 0, rfl, by omega, rfl, by simp [cat], hbB⟩
      case round =>
        clear hbB
        obtain ⟨m, p, rfl, hm, rfl, hp, hb⟩ := hrel
        have hpA : p ≤ A.length := by rw [hp, HA.out]; exact cat_take_le ts m
        have HP : Hid (p = (cat (ts.take m)).length) := hp
        clear hp
        by_cases hlt : m < j
        · have hlt' : m < ts.length := by rw [HT.out]; exact hlt
          obtain ⟨t, htm⟩ : ∃ t, t = ts[m] := ⟨_, rfl⟩
          have htb : t.size ≤ 200 := by rw [htm]; exact HTS.out _ (List.getElem_mem _)
          obtain ⟨b, off, rfl, hc⟩ := (hr.later hb).at (i := m) (v := .string t) (by simp [strs', htm, hlt'])
          obtain ⟨q, hq⟩ : ∃ q, q = (wrap t.data.toList).length := ⟨_, rfl⟩
          have hql : q ≤ 214 := by rw [hq]; exact wrap_len t htb
          have G : Hid (unwrap ((⟨S.toArray⟩ : ByteArray).extract p S.length).data.toList = (t.data.toList, q, 0)) := by
            rw [extract_tail, HP.out, HS.out, HA.out, hq, htm]
            exact cat_get ts _ m hlt' (by rw [← htm]; exact htb)
          have HQ : Hid (p + q = (cat (ts.take (m + 1))).length) := by
            rw [cat_succ ts m hlt', List.length_append, HP.out, hq, htm]; rfl
          clear htm hq
          go_wp2_with fail
          refine (open_at G (by rw [ByteArray.size_extract]; show min _ S.length - _ ≤ _; omega) _).mono ?_
          rintro x w3 ⟨rfl, hb2⟩
          have hc2 := cell_later (hb2.mono (Nat.le_refl _)) hc
          go_wp2
          go_roundw
          case rel => exact ⟨m + 1, p + q, by go_num, by omega, by go_num, HQ.out, hb.trans (hb2.mono hb.size)⟩
          case measure => simp [intOf]; omega
        · obtain rfl : m = j := by omega
          have hpS : p = A.length := by
            rw [HP.out, List.take_of_length_le (by rw [HT.out]; omega), HA.out]
          subst hpS
          go_wp2
          go_ret
          rw [HSE.out]
          exact ⟨by simp, hb⟩

theorem sumRows_own : ownKnob Try.prog.godebug = none := by kernel_rfl
theorem sumRows_laidOut : laidOutB Try.prog = true := by kernel_rfl
set_option maxRecDepth 100000 in
theorem sumRows_lifted (os : Os) (started : os.Started) (H : Type) (enc : TypeId × Value → H) :
    ReturnsInHanded {} Try.checked os 6 .any (Rows.sumRowsSpec.pre6 enc Try.prog Try.f6 Rows.sumRowsRow.domain false) (Rows.sumRowsSpec.post enc Try.prog Try.f6 false true false false) := by
  refine returnsInHanded_of_change (C := Try.checked) sumRows_own started (by kernel_rfl) Try.func6
    (ChangeSpec.witness6 (enc := enc) (C := Try.checked) false ⟨#[], #[.slice none 0 0, .string ByteArray.empty], []⟩ 8 (by kernel_rfl) (by kernel_rfl) (by kernel_rfl) (by kernel_rfl)) ?_
  intro W base args ds gs before hval0 hW hcnd _
  have hval : ∀ (j : Nat) t v, Try.f6.params[j]? = some t → args[j]? = some v → Value.okWide Try.prog W .any base t v := hval0
  have hW' := hW
  obtain ⟨p, q, hA0, hV, rfl, hfz, hnd⟩ := hW
  have hA : DataW.TrodAll enc Try.prog W 0 (fun _ => true) true Try.f6.params.toList args.toList ds p := hA0
  rw [Try.params6] at hA hval
  obtain ⟨v0, vs0, d0, ds0, p0, q0, hargs, rfl, rfl, h0, r0⟩ := trodAll_cons hA
  obtain ⟨v1, vs1, d1, ds1, p1, q1, rfl, rfl, rfl, h1, r1⟩ := trodAll_cons r0
  obtain ⟨rfl, rfl, rfl⟩ := trodAll_nil r1
  obtain rfl : args = #[v0, v1] := by cases args; simp_all
  obtain ⟨rfl, rfl⟩ := trodVars_none hV
  have k0 := h0
  have lt0 : ∀ x ∈ p0, x.block < W.heap.size := by obtain ⟨m, hm⟩ := k0; exact DataW.trod_lt m _ _ _ hm
  have k1 := h1
  have lt1 : ∀ x ∈ p1, x.block < W.heap.size := by obtain ⟨m, hm⟩ := k1; exact DataW.trod_lt m _ _ _ hm
  obtain ⟨a0, len0, cap0, rfl⟩ := okWide_slice Try.underlying36 (hval 0 36 v0 rfl rfl)
  obtain ⟨ts0, ht0, hb0, hr0, hl0⟩ : ∃ ts0 : List ByteArray, ts0.length = len0 ∧ (∀ s ∈ ts0, s.size ≤ maxLen) ∧ RowIs W a0 (strs' ts0) ∧ len0 ≤ maxLen := by
    obtain ⟨fuel, hf⟩ := h0
    rcases open_strings Try.underlying36 Try.underlying9 (by kernel_rfl) hf with ⟨hcs, _⟩ | ⟨x, l, c, ss, hcs, _, hl, hm, hz, _, hcell, hws⟩
    · simp [Value.cells] at hcs
      obtain ⟨rfl, rfl, rfl⟩ := hcs
      exact ⟨[], rfl, by simp, .inl rfl, by unfold maxLen; omega⟩
    · simp [Value.cells] at hcs
      obtain ⟨rfl, rfl, rfl⟩ := hcs
      have hz' : ss.length = cap0 := by simpa using hz
      obtain ⟨ts, e1, e2, e3⟩ := row_strs (len := len0) (by omega) hcell hws
      exact ⟨ts, e1, e2, e3, by omega⟩
  obtain ⟨a1, rfl, rfl, rfl, w1⟩ := open_string Try.underlying9 (hval 1 9 v1 rfl rfl) h1
  clear hA0 hval0
  refine (sumRows_walk W a0 len0 cap0 ts0 ht0 hb0 hr0 hl0 a1 w1).mono fun e W' ⟨he, bel⟩ => ?_
  subst he
  exact ⟨_, rfl, _, _, _, [], _, [], hW', trodAll_mk1 (shut_bool Try.underlying4 _), (trodAll_cons_mk (Below.trod sumRows_laidOut (by kernel_rfl) (of_decide_eq_true (by kernel_rfl)) k0 bel lt0) (trodAll_cons_mk (Below.trod sumRows_laidOut (by kernel_rfl) (of_decide_eq_true (by kernel_rfl)) k1 bel lt1) trodAll_mk0)), rfl, bel.frame _, fun h => by cases h⟩

theorem sumRows_over : Rows.sumRowsRow.holds Try.pinned (OpenSpec.ofChange Rows.sumRowsSpec) :=
  OpenClaim.holds_of_wide 6 Try.f6 rfl rfl rfl rfl rfl rfl rfl ⟨rfl, rfl, rfl, rfl, rfl⟩ rfl rfl rfl rfl rfl (by kernel_rfl) Try.func6 (by kernel_rfl)
    (of_decide_eq_true (by kernel_rfl)) (by unfold Func.isWrapper; first | (rw [if_pos (by decide +kernel)]; kernel_rfl) | (rw [if_neg (by decide +kernel)]; exact ⟨rfl, rfl⟩))
    (fun os started H enc _ => sumRows_lifted os started H enc)

theorem sumRows_holds : Rows.SumRowsSaid := sumRows_over
#print axioms sumRows_holds
end Go.Proofs.Ytcolllffjlahbaa
