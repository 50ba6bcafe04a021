/- Contracts of the statements' own small functions: fewEvents, rising. The statements' known(): its fixed examples hold. Plain facts on how many events are read; rows that are few. -/
import Derived.Test.YtjdlcocncacmlaaEvN
import Derived.Test.YtjdlcocncacmlaaEvS
namespace Go.Proofs.Ytjdlcocncacmlaa
section
open Go.RowKit
set_option linter.unusedVariables false
def few2 (e : Ev) : Bool := few4 e.t.f && few4 e.d.f
def fewE (L : List Ev) : Bool := L.all few2 && decide (L.length ≤ 30)
theorem fewE_no {L : List Ev} {k : Nat} {e : Ev} (h : L[k]? = some e) (hf : few2 e = false) : fewE L = false := by
  have : L.all few2 = false := by
    rw [List.all_eq_false]
    exact ⟨e, List.mem_of_getElem? h, by simp [hf]⟩
  unfold fewE
  rw [this]; rfl
theorem fewE_yes {L : List Ev} (h : ∀ j e, j < L.length → L[j]? = some e → few2 e = true) : fewE L = decide ((L.length : Int) ≤ 30) := by
  have : L.all few2 = true := by
    rw [List.all_eq_true]
    intro e he
    obtain ⟨j, hj, rfl⟩ := List.getElem_of_mem he
    exact h j _ hj (by simp [hj])
  unfold fewE
  rw [this, Bool.true_and]
  rw [Bool.eq_iff_iff]
  simp
  omega
def fsCs (d : Dl) : List Value := [.int .i64 d.f0.n, .string d.f0.s, .int .i64 d.f1.n, .string d.f1.s, .int .i64 d.f2.n, .string d.f2.s, .int .i64 d.f3.n, .string d.f3.s]
theorem Try.sizeF8 : (Try.prog.info? 38).map (·.size) = some 8 := by kernel_rfl
theorem wpList_load_mid_fsG {ops : Array Oper} {rest : List Oper} {o : Oper} {a : Act} {W : World} {Q : Exit → Act → World → Prop} (hw : Region.wanted o (yielded ops a.tmps) = true) (x : Operand) (ho : o.op = .load 38 x)
    {b p : Nat} {c : Dl} (hx : a.eval x = .pointer (some ⟨b, p, none⟩)) (h : W.rangeAt b p (fsCs c)) (k : wpList Try.prog ops Q rest (a.put o.dst (.agg #[.int .i64 c.f0.n, .string c.f0.s, .int .i64 c.f1.n, .string c.f1.s, .int .i64 c.f2.n, .string c.f2.s, .int .i64 c.f3.n, .string c.f3.s])) W) : wpList Try.prog ops Q (o :: rest) a W := by
  rw [wpList, if_pos hw]
  exact .inl (wp_load_mid _ x ho b p hx (fsCs c) _ h Try.underlying38 rfl Try.sizeF8 k)
theorem range_fs {W : World} {b o : Nat} {d : Dl} (h : W.rangeAt b o d.cs) : W.rangeAt b (o + 4) (fsCs d) := fun j v hv => by
  have e1 : d.cs = [.int .i64 d.id, .int .u8 d.m, .int .i64 d.x, .int .i64 d.y] ++ fsCs d := rfl
  have := h (4 + j) v (by rw [e1, List.getElem?_append_right (by simp)]; simpa using hv)
  rwa [← Nat.add_assoc] at this
/- rows that rise, of things that are any -/
theorem okT_at {L : List Th} {k : Nat} {t : Th} (h : L[k]? = some t) : okT L k = (isT t && (decide (k = 0) || decide ((L.getD (k - 1) zT).id < t.id))) := by unfold okT; rw [getD_of h]
theorem good_goodR {L : List Th} (h : good L = true) (hf : ∀ t ∈ L, inT t) : GoodR L := by
  have hok : ∀ k t, L[k]? = some t → isT t = true ∧ (k = 0 ∨ (L.getD (k - 1) zT).id < t.id) := fun k t hk => by
    have := good_at h (List.getElem?_eq_some_iff.1 hk).1
    rw [okT_at hk, Bool.and_eq_true, Bool.or_eq_true, decide_eq_true_eq, decide_eq_true_eq] at this
    exact this
  have hlt : ∀ (d i : Nat) (a b : Th), L[i]? = some a → L[i + d + 1]? = some b → a.id < b.id := by
    intro d
    induction d with
    | zero =>
      intro i a b ha hb
      have := (hok _ b hb).2
      rcases this with h0 | h0
      · omega
      · rw [show i + 0 + 1 - 1 = i by omega, getD_of ha] at h0; exact h0
    | succ d ih =>
      intro i a b ha hb
      have hl : i + d + 1 < L.length := by have := (List.getElem?_eq_some_iff.1 hb).1; omega
      have h1 := ih i a L[i + d + 1] ha (List.getElem?_eq_getElem hl)
      have := (hok _ b hb).2
      rcases this with h0 | h0
      · omega
      · rw [show i + (d + 1) + 1 - 1 = i + d + 1 by omega, getD_of (List.getElem?_eq_getElem hl)] at h0; omega
  refine ⟨?_, fun t ht => ?_, hf⟩
  · show L.Pairwise _
    rw [List.pairwise_iff_getElem]
    intro i j hi hj hij
    exact hlt (j - i - 1) i _ _ (List.getElem?_eq_getElem hi) (by rw [show i + (j - i - 1) + 1 = j by omega]; exact List.getElem?_eq_getElem hj)
  · obtain ⟨j, hj, rfl⟩ := List.getElem_of_mem ht
    exact (hok j _ (List.getElem?_eq_getElem hj)).1
theorem goodR_good {L : List Th} (h : GoodR L) : good L = true := by
  refine good_yes fun k hk => ?_
  rw [okT_at (List.getElem?_eq_getElem hk), h.is _ (List.getElem_mem hk), Bool.true_and, Bool.or_eq_true, decide_eq_true_eq, decide_eq_true_eq]
  by_cases h0 : k = 0
  · exact .inl h0
  · right
    have hk1 : k - 1 < L.length := by omega
    rw [getD_of (List.getElem?_eq_getElem hk1)]
    exact (List.pairwise_iff_getElem.1 h.rise) (k - 1) k hk1 hk (by omega)
set_option maxRecDepth 100000 in
set_option maxHeartbeats 4000000 in
theorem law_rising (w : World) (p : Option Addr) (cap n : Nat) (L : List Th) (q : Bool) (hq : Hid (good L = q)) (hn : Hid (L.length = n)) (hr : RowT w p L) (hi : ∀ t ∈ L, inT t) (hm : n ≤ maxLen) :
    Calls Try.prog 10 #[.slice p n cap] w fun e w' => e = .returned (.bool q) ∧ Below w.heap.size w w' := by
  have hm' : n ≤ 9223372036854775807 := by unfold maxLen at hm; omega
  have HR := hid hr
  clear hr hm
  go_enter Try.func10, Try.ntmps10
  go_wp2_with fail
  go_loopw [3] (fun i wr => ∃ k : Nat, k ≤ n ∧ i = .int .i64 k ∧ Hid (∀ j, j < k → okT L j = true) ∧ Below w.heap.size w wr) (fun i _ => n - (intOf i).toNat)
  case atStart => exact ⟨0, by omega, rfl, hid (fun j hj => by omega), Below.refl _ _⟩
  case round =>
    obtain ⟨k, hk, rfl, HO, hb⟩ := hrel
    by_cases hlt : k < n
    · have hlt' : (k : Int) < (n : Int) := by omega
      obtain ⟨t, ht⟩ := get_th L k (by rw [hn.out]; exact hlt)
      obtain ⟨b, off, rfl, hc⟩ := (HR.out.later hb).at ht
      have HT := hid ht
      have hit := hi t (List.mem_of_getElem? ht)
      clear ht
      obtain ⟨r, hr⟩ : ∃ r, Hid (isT t = r) := ⟨_, rfl⟩
      have IS := fun w => refT_at hr w hit
      have hfin : ∀ d os, Hid (Below w.heap.size w (Sort.grow (redrawn wr d) os)) := fun d os => below_on hb (below_regrown wr d os)
      have hcr : ∀ d os, cellsT (Sort.grow (redrawn wr d) os) b (off + k * 11) t := fun d os => cellsT_later hc (below_regrown wr d os)
      cases r
      · have e := hid ((good_no (by rw [hn.out]; exact hlt) (by rw [okT_at HT.out, hr.out]; rfl)).symm.trans hq.out)
        clear hc hb
        go_upto_region 4 with fail
        refine wp_region_quiet_below (by kernel_rfl) (by kernel_rfl) ?_
        repeat (first | go_big_quiet_skip | (go_big_quiet_want; go_big_quiet_op; first | go_big_quiet_on | go_big_quiet_call (exact Calls.regrown_of (IS _))))
        refine wpQuiet_nil ?_
        intro _ hw'
        obtain ⟨⟨dq, osq⟩, hw''⟩ := hw'
        subst hw''
        have hB := hfin dq osq
        obtain ⟨W8, hW8⟩ : ∃ W8, Sort.grow (redrawn wr dq) osq = W8 := ⟨_, rfl⟩
        rw [hW8] at hB ⊢
        clear hW8 hcr hfin
        go_wp2_with fail
        go_ret
        exact ⟨ret_b e.out, hB.out⟩
      · by_cases h0 : k = 0
        · subst h0
          have hok : okT L 0 = true := by rw [okT_at HT.out, hr.out]; rfl
          have e := hid (show ∀ j, j < 0 + 1 → okT L j = true from fun j hj => by
            obtain rfl : j = 0 := by omega
            exact hok)
          have hcr0 : ∀ d os, cellsT (Sort.grow (redrawn wr d) os) b off t := fun d os => by
            have := hcr d os
            rwa [Nat.zero_mul, Nat.add_zero] at this
          clear hc hb hok hcr
          go_upto_region 4 with fail
          refine wp_region_quiet_below (by kernel_rfl) (by kernel_rfl) ?_
          repeat (first | go_big_quiet_skip | (go_big_quiet_want; go_big_quiet_op; first | go_big_quiet_on | go_big_quiet_call (exact Calls.regrown_of (IS _))))
          refine wpQuiet_nil ?_
          intro _ hw'
          obtain ⟨⟨dq, osq⟩, hw''⟩ := hw'
          subst hw''
          have hB := hfin dq osq
          obtain ⟨W8, hW8⟩ : ∃ W8, Sort.grow (redrawn wr dq) osq = W8 := ⟨_, rfl⟩
          rw [hW8] at hB ⊢
          clear hW8 hcr0 hfin
          go_wp2_with fail
          go_roundw
          case rel => exact ⟨1, by omega, by first | rfl | go_num, e, hB.out⟩
          case measure => simp [intOf]; omega
        · obtain ⟨m, rfl⟩ : ∃ m, k = m + 1 := ⟨k - 1, by omega⟩
          obtain ⟨u, hu⟩ := get_th L m (by rw [hn.out]; omega)
          obtain ⟨b2, off2, e2, hc2⟩ := (HR.out.later hb).at hu
          simp only [Option.some.injEq, Addr.mk.injEq, and_true] at e2
          obtain ⟨rfl, rfl⟩ := e2
          have hcr2 : ∀ d os, (Sort.grow (redrawn wr d) os).cell? ⟨b, off + m * 11, none⟩ = some (.int .i64 u.id) := fun d os => (cellsT_later hc2 (below_regrown wr d os)).1
          have hpos : (0 : Int) < (m : Int) + 1 := by omega
          have hm1 : (m : Int) + 1 - 1 = (m : Int) := by omega
          have hmn : (m : Int) < (n : Int) := by omega
          obtain ⟨z, hz⟩ : ∃ z, decide (t.id ≤ u.id) = z := ⟨_, rfl⟩
          have hok : okT L (m + 1) = !z := by
            rw [okT_at HT.out, hr.out, show m + 1 - 1 = m by omega, getD_of hu, ← hz]
            by_cases h : t.id ≤ u.id
            · have h' : ¬ u.id < t.id := by omega
              simp [h, h']
            · have h' : u.id < t.id := by omega
              simp [h, h']
          have HOK := hid hok
          clear hc hb hc2 hok hu h0
          go_upto_region 4 with fail
          refine wp_region_quiet_below (by kernel_rfl) (by kernel_rfl) ?_
          repeat (first | go_big_quiet_skip | (go_big_quiet_want; go_big_quiet_op; first | go_big_quiet_on | go_big_quiet_call (exact Calls.regrown_of (IS _))))
          refine wpQuiet_nil ?_
          intro _ hw'
          obtain ⟨⟨dq, osq⟩, hw''⟩ := hw'
          subst hw''
          have hB := hfin dq osq
          obtain ⟨W8, hW8⟩ : ∃ W8, Sort.grow (redrawn wr dq) osq = W8 := ⟨_, rfl⟩
          rw [hW8] at hB ⊢
          clear hW8 hcr hcr2 hfin
          cases z
          · have e := hid (show ∀ j, j < m + 1 + 1 → okT L j = true from fun j hj => by
              by_cases e : j = m + 1
              · subst e; exact HOK.out
              · exact HO.out j (by omega))
            go_wp2_with fail
            go_roundw
            case rel => exact ⟨m + 2, by omega, by go_num, e, hB.out⟩
            case measure => simp [intOf]; omega
          · have e := hid ((good_no (by rw [hn.out]; exact hlt) HOK.out).symm.trans hq.out)
            go_wp2_with fail
            go_ret
            exact ⟨ret_b e.out, hB.out⟩
    · obtain rfl : k = n := by omega
      have hlt' : ¬ (k : Int) < (k : Int) := by omega
      have e := hid ((good_yes (fun j hj => HO.out j (by rw [← hn.out]; exact hj))).symm.trans hq.out)
      go_wp2_with fail
      go_ret
      exact ⟨ret_b e.out, hb⟩
end
section
open Go.RowKit
set_option linter.unusedVariables false
def kT : Th := ⟨3, 1, 0, zF, zF, zF, zF⟩
def kD : Dl := ⟨3, 1, 0, 0, zF, zF, zF, zF⟩
def kE1 : Ev := ⟨1, 3, kT, zD⟩
def kE2 : Ev := ⟨2, 3, zT, kD⟩
def kE3 : Ev := ⟨3, 3, zT, zD⟩
def kV : Th := ⟨3, 0, 0, zF, zF, zF, zF⟩
def kL : List Ev := [kE1, kE2]
theorem k_is1 : isE kE1 = true := by decide +kernel
theorem k_is2 : isE kE2 = true := by decide +kernel
theorem k_is3 : isE kE3 = true := by decide +kernel
theorem k_is0 : isE zE = false := by decide +kernel
theorem k_all : kL.all isE = true := by decide +kernel
theorem k_in1 : inE kE1 := ⟨⟨⟨by decide, by decide, by decide⟩, ⟨by decide, by decide, by decide⟩, ⟨by decide, by decide, by decide⟩, ⟨by decide, by decide, by decide⟩⟩, inD_z⟩
theorem k_in2 : inE kE2 := ⟨inT_z, ⟨by decide, ⟨by decide, by decide, by decide⟩, ⟨by decide, by decide, by decide⟩, ⟨by decide, by decide, by decide⟩, ⟨by decide, by decide, by decide⟩⟩⟩
theorem k_in3 : inE kE3 := ⟨inT_z, inD_z⟩
theorem k_in0 : inE zE := ⟨inT_z, inD_z⟩
theorem k_inL : ∀ e ∈ kL, inE e := fun e he => by
  simp only [kL, List.mem_cons, List.not_mem_nil, or_false] at he
  rcases he with rfl | rfl
  · exact k_in1
  · exact k_in2
theorem k_isL : ∀ e ∈ kL, isE e = true := fun e he => by
  simp only [kL, List.mem_cons, List.not_mem_nil, or_false] at he
  rcases he with rfl | rfl
  · exact k_is1
  · exact k_is2
theorem rise_nil : Rise [] := List.Pairwise.nil
theorem rise_one (t : Th) : Rise [t] := List.pairwise_singleton _ _
theorem k_apply : apply kT kD = kV := by rw [apply5]; rfl
theorem k_do1 : doE [] kE1 = ([kT], true) := by
  rw [doE_1 k_is1 rfl rfl]; rfl
theorem k_do2 : doE [kT] kE2 = ([kV], true) := by
  have h1 : hasT 3 [kT] = true := by decide
  rw [doE_2 k_is2 rfl h1]
  have h2 : atT kE2.i [kT] = kT := rfl
  rw [h2, show kE2.d = kD from rfl, k_apply]
  rfl
theorem k_fold : foE [] kL = ([kV], true) := by
  unfold foE kL
  simp only [foS, k_do1, k_do2, if_true]
theorem k_do3 : doE [kV] kE3 = ([], true) := by
  have h1 : hasT 3 [kV] = true := by decide
  rw [doE_3 k_is3 rfl h1]
  rfl
theorem k_do4 : doE [] kE3 = ([], false) := doE_no (by decide)
theorem rowE_block {W : World} {g : Nat} {cs : Array Value} {ty : TypeId} {L : List Ev} (h : W.heap[g]? = some (.cells cs ty (0, 0))) (hc : cs.toList = flatE L) : RowE W (some ⟨g, 0, none⟩) L := by
  refine .inr ⟨g, 0, rfl, fun k t hk j v hv => ?_⟩
  have hj : j < 25 := by have := (List.getElem?_eq_some_iff.1 hv).1; rwa [Ev.z] at this
  rw [Nat.zero_add, Go.Joins.cell_of_block h, ← hv, ← flatE_get L k t hk j hj, ← hc]
  simp
theorem wpList_load_mid_evG {ops : Array Oper} {rest : List Oper} {o : Oper} {a : Act} {W : World} {Q : Exit → Act → World → Prop} (hw : Region.wanted o (yielded ops a.tmps) = true) (x : Operand) (ho : o.op = .load 44 x)
    {b p : Nat} {c : Ev} (hx : a.eval x = .pointer (some ⟨b, p, none⟩)) (h : W.rangeAt b p c.cs) (k : wpList Try.prog ops Q rest (a.put o.dst c.v) W) : wpList Try.prog ops Q (o :: rest) a W := by
  rw [wpList, if_pos hw]
  exact .inl (wp_load_mid _ x ho b p hx c.cs _ h Try.underlying44 rfl Try.sizeEv k)
theorem size_list (S : List UInt8) : (⟨S.toArray⟩ : ByteArray).size = S.length := rfl
end
section
open Go.RowKit
set_option linter.unusedVariables false
theorem esS_len {s : List UInt8} {z0 : Nat} : ∀ (k : Nat) {M : List Ev} {z e : Nat}, esS s z0 k = (M, z, e) → M.length ≤ k
  | 0, M, z, e, h => by
    simp only [esS, Prod.mk.injEq] at h
    rw [← h.1]; exact Nat.le_refl _
  | k + 1, M, z, e, h => by
    rcases hk : esS s z0 k with ⟨A, y, f⟩
    have ih := esS_len k hk
    rcases hr : evR (s.drop y) with ⟨x, m, g⟩
    rw [esS_succ hk, hr] at h
    by_cases hf : f = 0
    · subst hf
      by_cases hg : g = 0
      · subst hg
        rw [esN_on] at h
        simp only [Prod.mk.injEq] at h
        rw [← h.1, List.length_append, List.length_singleton]; omega
      · rw [esN_bad hg] at h
        simp only [Prod.mk.injEq] at h
        rw [← h.1]; simp
    · rw [esN_err hf] at h
      simp only [Prod.mk.injEq] at h
      rw [← h.1]; omega
theorem read_len {s : List UInt8} {L : List Ev} {z e : Nat} (h : readE s = (L, z, e)) : L.length ≤ 1000 := by
  rcases hn : numE s 400 13 with ⟨n, y, f⟩
  obtain ⟨c1, c2, c3, c4⟩ := numE_ok (.inr rfl) hn
  by_cases hf : f = 0
  · subst hf
    rw [readE_2 hn] at h
    have := esS_len n h
    omega
  · rw [readE_1 hn hf] at h
    simp only [Prod.mk.injEq] at h
    rw [← h.1]; simp
theorem fewE_len {L : List Ev} (h : fewE L = true) : L.length ≤ 30 := by
  unfold fewE at h
  rw [Bool.and_eq_true, decide_eq_true_eq] at h
  exact h.2
theorem fewL_len {L : List Th} (h : fewL L = true) : L.length ≤ 30 := by
  unfold fewL at h
  rw [Bool.and_eq_true, decide_eq_true_eq] at h
  exact h.2
end
end Go.Proofs.Ytjdlcocncacmlaa
