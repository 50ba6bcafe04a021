/- DiffParts holds: what changed of the things below a number and of those from it on, one behind the other, is what changed of all of them. -/
import Derived.Test.YtjdlcocncacmlaaKnown16
import Derived.ProofKit
import Derived.OpenShut
import Derived.ShutString
import Derived.ChangeOld
import Derived.Below
import Derived.SizedLaws
namespace Go.Proofs.Ytjdlcocncacmlaa
open Go.ChangeShapes Go.WideShapes Go.ChangeAt Go.RowKit
open Go.ChangeMaps (open_string shut_string)
set_option linter.unusedVariables false

theorem run_append_rows {w : World} {base b2 : Nat} {ty : TypeId} {v : Value} {n m c : Nat} {p : Option Addr} {xs news : List Value} (hown : w.ownsRow base 44 25 v n xs) (hx : w.ownsRow b2 44 25 (.slice p m c) m news) (h1 : ∀ u ∈ news, u.oneCell' = true) (h63 : n + m ≤ maxLen) (hbytes : (n + m) * 264 ≤ 140737488355328) (hbase : base ≤ w.heap.size) :
    ∃ v' w', (Builtin.append_ #[28, 28] ty #[v, .slice p m c]).run Try.prog w = .ok v' w' ∧ w'.ownsRow base 44 25 v' (n + m) (xs ++ news) ∧ w.grownBy w' v.ownBlock := by
  obtain ⟨i, hi, hz, hs, hb⟩ := info_parts3 Try.infoEv
  rcases hx.2 with ⟨h', h0⟩ | ⟨g, cap', cur, h', -, hcur, hmc, -, hcs, htake⟩
  · simp only [Value.slice.injEq] at h'
    obtain ⟨rfl, rfl, rfl⟩ := h'
    have hnil : news = [] := by have := hx.1; exact List.length_eq_zero_iff.1 (by omega)
    subst hnil
    refine ⟨v, w, run_append_owned_none w base 28 ty 44 i 25 Try.underlying28 hi v n xs hown, by rw [List.append_nil, Nat.add_zero]; exact hown, ⟨rfl, rfl, rfl, Nat.le_refl _, fun _ _ _ => rfl⟩⟩
  · simp only [Value.slice.injEq] at h'
    obtain ⟨rfl, _, rfl⟩ := h'
    obtain ⟨v', w', hr, h2, h3, _, _⟩ := run_append_own_at (P := Try.prog) w base 28 ty 44 i zE.v 25 264 Try.underlying28 hi hz hs hb rfl (by decide) v n xs hown ⟨g, 0, none⟩ m c news hx.1 (fun j u hu => by
      have e : (⟨g, 0, none⟩ : Addr).add j = ⟨g, j, none⟩ := by unfold Addr.add; split <;> simp_all
      rw [e]
      exact owns_read hx j u hu) h1 h63 hbytes hbase
    exact ⟨v', w', hr, h2, h3⟩
theorem step_append_rows {ops : Array Oper} {o : Oper} {a : Act} {w : World} {K : Act → World → Prop} {Q : Exit → Act → World → Prop} {E : Prop} (hgd : o.guard = none) (s x : Operand)
    (ho : o.op = .call { callee := .builtin .append, args := #[s, x], argTypes := #[28, 28] })
    {base b2 : Nat} {v : Value} {n m c : Nat} {p : Option Addr} {xs news : List Value} (hs : a.eval s = v) (hxe : a.eval x = .slice p m c) (hown : w.ownsRow base 44 25 v n xs) (hx : w.ownsRow b2 44 25 (.slice p m c) m news) (h1 : ∀ u ∈ news, u.oneCell' = true) (h63 : n + m ≤ maxLen) (hbytes : (n + m) * 264 ≤ 140737488355328) (hbase : base ≤ w.heap.size)
    (h : ∀ v' w', w'.ownsRow base 44 25 v' (n + m) (xs ++ news) → w.grownBy w' v.ownBlock → K (a.put o.dst v') w') :
    if Region.wanted o (yielded ops a.tmps) = true then Oper.wp Try.prog o a w K Q else E := by
  have hw : Region.wanted o (yielded ops a.tmps) = true := by simp [Region.wanted, hgd]
  rw [if_pos hw]
  obtain ⟨v', w', hrun, h2, h3⟩ := run_append_rows (ty := o.type) hown hx h1 h63 hbytes hbase
  unfold Oper.wp
  simp [execOp, ho, resolve, invoke, builtin, hs, hxe, hrun, Result.andThen]
  exact h _ _ h2 h3
theorem run_headS {n c k : Nat} {p : Option Addr} (h2 : k ≤ c) (W : World) : (Instr.slice 22 (.slice p n c) none (some (.int .i64 (k : Int))) none).run Try.prog W = .ok (.slice p k c) W := by
  have hs : ∀ W, (Go.sizeOf 40).run Try.prog W = .ok 11 W := fun W => by kernel_rfl
  rw [run_slice_h (P := Try.prog) W 22 p n c Try.underlying22 .i64 (k : Int) (by omega) (by omega)]
  simp only [show (Program.elem Try.prog 22) = 40 from by kernel_rfl, hs, Result.andThen, sliced]
  cases p with
  | none => simp
  | some a => simp [Addr.add]
def dropP (p : Option Addr) (c k : Nat) : Option Addr := if c = k then p else p.map (·.add (k * 11))
theorem run_tailS {n c k : Nat} {p : Option Addr} (h1 : k ≤ n) (h2 : n ≤ c) (W : World) : (Instr.slice 22 (.slice p n c) (some (.int .i64 (k : Int))) none none).run Try.prog W = .ok (.slice (dropP p c k) (n - k) (c - k)) W := by
  have hs : ∀ W, (Go.sizeOf 40).run Try.prog W = .ok 11 W := fun W => by kernel_rfl
  have hb : ∀ (W : World) (code : BoundsCode), (Instr.sliceBound (.int .i64 (k : Int)) n code).run Try.prog W = .ok k W := fun W code => by
    have := run_sliceBound (P := Try.prog) W .i64 (k : Int) n code (by omega) (by omega)
    simpa using this
  simp [Instr.slice, run_underlying Try.underlying22, Instr.sliceBounds, hb, hs, dropP]
theorem RowT.dropK {w : World} {p : Option Addr} {L : List Th} {c k : Nat} (h : RowT w p L) (hc : L.length ≤ c) : RowT w (dropP p c k) (L.drop k) := by
  by_cases h0 : L.drop k = []
  · exact .inl h0
  · right
    rcases h with h | ⟨b, off, rfl, h⟩
    · subst h; simp at h0
    · have h1 : k < L.length := by
        rcases Nat.lt_or_ge k L.length with h | h
        · exact h
        · exact absurd (List.drop_of_length_le h) h0
      refine ⟨b, off + k * 11, ?_, fun j t hj => ?_⟩
      · unfold dropP
        rw [if_neg (by omega)]
        simp [Addr.add]
      · rw [List.getElem?_drop] at hj
        have := h (k + j) t hj
        rw [show off + k * 11 + j * 11 = off + (k + j) * 11 by omega]
        exact this
theorem below_part {L : List Th} (hr : Rise L) {k : Nat} {m : Int} {t : Th} (h : L[k]? = some t) (ht : m ≤ t.id) : ∀ x ∈ L.drop k, m ≤ x.id := by
  have hk := List.getElem?_eq_some_iff.1 h
  intro x hx
  rw [List.drop_eq_getElem_cons hk.1, hk.2] at hx
  rcases List.mem_cons.1 hx with rfl | hx
  · exact ht
  · have h2 : Rise (t :: L.drop (k + 1)) := by
      have := hr.sublist (List.drop_sublist k L)
      rwa [List.drop_eq_getElem_cons hk.1, hk.2] at this
    have := (List.pairwise_cons.1 h2).1 x hx
    omega
theorem take_part {L : List Th} {k : Nat} {m : Int} {t : Th} (h : L[k]? = some t) (ht : t.id < m) (hl : ∀ x ∈ L.take k, x.id < m) : ∀ x ∈ L.take (k + 1), x.id < m := by
  intro x hx
  rw [List.take_add_one, h, Option.toList_some, List.mem_append] at hx
  rcases hx with hx | hx
  · exact hl x hx
  · simp at hx; subst hx; exact ht
theorem parts_all {p q : Rc} {L M : List Th} {k j : Nat} {m : Int} (h1 : ∀ x ∈ L.take k, x.id < m) (h2 : ∀ x ∈ M.take j, x.id < m) (h3 : ∀ x ∈ L.drop k, m ≤ x.id) (h4 : ∀ x ∈ M.drop j, m ≤ x.id) :
    doO (seenL p (L.take k)) (seenL q (M.take j)) ++ doO (seenL p (L.drop k)) (seenL q (M.drop j)) = doO (seenL p L) (seenL q M) := by
  have := doO_parts (A := seenL p (L.take k)) (B := seenL q (M.take j)) (A2 := seenL p (L.drop k)) (B2 := seenL q (M.drop j)) (k := m) (fun t ht => h1 t (seen_mem ht)) (fun t ht => h2 t (seen_mem ht)) (fun t ht => h3 t (seen_mem ht)) (fun t ht => h4 t (seen_mem ht))
  rw [← seen_append, ← seen_append, List.take_append_drop, List.take_append_drop] at this
  exact this.symm
set_option maxRecDepth 100000 in
set_option maxHeartbeats 8000000 in
theorem diffParts_walk (w : World) (a0 : Option Addr) (cap0 : Nat) (L0 : List Th) (i0 : ∀ t ∈ L0, inT t) (r0 : RowT w a0 L0) (c0 : L0.length ≤ cap0) (m0 : cap0 ≤ maxLen) (a1 : Option Addr) (cap1 : Nat) (L1 : List Th) (i1 : ∀ t ∈ L1, inT t) (r1 : RowT w a1 L1) (c1 : L1.length ≤ cap1) (m1 : cap1 ≤ maxLen) (a20 a21 a22 a23 a30 a31 a32 a33 : Int) (a4 : Int) (w4 : (Lit.int .u8 a4).wf = true) :
    Calls Try.prog 5 #[.slice a0 L0.length cap0, .slice a1 L1.length cap1, rc a20 a21 a22 a23, rc a30 a31 a32 a33, .int .u8 a4] w fun e w' => e = .returned (.bool true) ∧ Below w.heap.size w w' := by
  obtain ⟨u0, u1⟩ := u8_bounds w4
  clear w4
  obtain ⟨n0, hn0⟩ : ∃ n, Hid (L0.length = n) := ⟨_, rfl⟩
  obtain ⟨n1, hn1⟩ : ∃ n, Hid (L1.length = n) := ⟨_, rfl⟩
  obtain ⟨f0, hf0⟩ : ∃ q, Hid (fewL L0 = q) := ⟨_, rfl⟩
  obtain ⟨q0, hg0⟩ : ∃ q, Hid (good L0 = q) := ⟨_, rfl⟩
  have m0' : n0 ≤ maxLen := by rw [← hn0.out]; omega
  have k0 : n0 ≤ 9223372036854775807 := by unfold maxLen at m0'; omega
  have d0 : n0 ≤ cap0 := by rw [← hn0.out]; exact c0
  have I0 := hid i0
  obtain ⟨f1, hf1⟩ : ∃ q, Hid (fewL L1 = q) := ⟨_, rfl⟩
  obtain ⟨q1, hg1⟩ : ∃ q, Hid (good L1 = q) := ⟨_, rfl⟩
  have m1' : n1 ≤ maxLen := by rw [← hn1.out]; omega
  have k1 : n1 ≤ 9223372036854775807 := by unfold maxLen at m1'; omega
  have d1 : n1 ≤ cap1 := by rw [← hn1.out]; exact c1
  have I1 := hid i1
  obtain ⟨rp, rfl, rfl, rfl, rfl⟩ : ∃ r : Rc, r.x0 = a20 ∧ r.y0 = a21 ∧ r.x1 = a22 ∧ r.y1 = a23 := ⟨⟨a20, a21, a22, a23⟩, rfl, rfl, rfl, rfl⟩
  obtain ⟨rq, rfl, rfl, rfl, rfl⟩ : ∃ r : Rc, r.x0 = a30 ∧ r.y0 = a31 ∧ r.x1 = a32 ∧ r.y1 = a33 := ⟨⟨a30, a31, a32, a33⟩, rfl, rfl, rfl, rfl⟩
  obtain ⟨W0, hW0⟩ : ∃ W0, (w.alloc (rcO rp.x0 rp.y0 rp.x1 rp.y1)).alloc (rcO rq.x0 rq.y0 rq.x1 rq.y1) = W0 := ⟨_, rfl⟩
  have hE : Below w.heap.size w W0 := by rw [← hW0]; exact Go.Joins.below_alloc2 _ _ _
  have K := hid (show W0.heap[w.heap.size]? = some (rcO rp.x0 rp.y0 rp.x1 rp.y1) by rw [← hW0]; exact old_at (new_at _ _ _ rfl) _)
  have K' := hid (show W0.heap[w.heap.size + 1]? = some (rcO rq.x0 rq.y0 rq.x1 rq.y1) by rw [← hW0]; exact new_at _ _ _ (by simp))
  have R0 := hid (r0.later hE)
  have R1 := hid (r1.later hE)
  rw [hn0.out, hn1.out]
  clear c0 m0 r0 i0 c1 m1 r1 i1
  obtain ⟨g0, hg0'⟩ : ∃ g, Hid (w.heap.size = g) := ⟨_, rfl⟩
  obtain ⟨Q, hQ⟩ : ∃ Q : Ending → World → Prop, Hid ((fun e w' => e = .returned (.bool true) ∧ Below w.heap.size w w') = Q) := ⟨_, rfl⟩
  rw [hQ.out]
  go_enter Try.func5, Try.ntmps5
  go_upto_region 1 with fail
  try rw [hW0]
  clear hW0
  rw [hg0'.out] at K K' ⊢
  have hE0 := hid hE
  clear hE
  have SC : ∀ wx : World, Below W0.heap.size W0 wx → (wx.cell? ⟨g0, 0, none⟩ = some (.int .i64 rp.x0) ∧ wx.cell? ⟨g0, 1, none⟩ = some (.int .i64 rp.y0) ∧ wx.cell? ⟨g0, 2, none⟩ = some (.int .i64 rp.x1) ∧ wx.cell? ⟨g0, 3, none⟩ = some (.int .i64 rp.y1) ∧ wx.cell? ⟨g0 + 1, 0, none⟩ = some (.int .i64 rq.x0) ∧ wx.cell? ⟨g0 + 1, 1, none⟩ = some (.int .i64 rq.y0) ∧ wx.cell? ⟨g0 + 1, 2, none⟩ = some (.int .i64 rq.x1) ∧ wx.cell? ⟨g0 + 1, 3, none⟩ = some (.int .i64 rq.y1)) := fun wx hx => by
    have c := (cells_at (var_on hx K.out (at_lt K.out))).1
    have c' := (cells_at (var_on hx K'.out (at_lt K'.out))).1
    exact ⟨c 0, c 1, c 2, c 3, c' 0, c' 1, c' 2, c' 3⟩
  go_wp2_with fail
  refine (known_holds _).mono ?_
  rintro x v1 ⟨rfl, hB⟩
  go_wp2_with fail
  refine (few_at16 hf0 hn0 (R0.out.later hB) I0.out m0').mono ?_
  rintro x v2 ⟨rfl, hb⟩
  replace hB := below_on hB hb
  clear hb
  cases f0
  · go_wp2_with fail
    rw [← hQ.out]
    exact ⟨rfl, below_on hE0.out hB⟩
  go_wp2_with fail
  refine (few_at16 hf1 hn1 (R1.out.later hB) I1.out m1').mono ?_
  rintro x v3 ⟨rfl, hb⟩
  replace hB := below_on hB hb
  clear hb
  cases f1
  · go_wp2_with fail
    rw [← hQ.out]
    exact ⟨rfl, below_on hE0.out hB⟩
  go_wp2_with fail
  refine (law_rising _ _ _ _ _ _ hg0 hn0 (R0.out.later hB) I0.out m0').mono ?_
  rintro x v4 ⟨rfl, hb⟩
  replace hB := below_on hB hb
  clear hb
  cases q0
  · go_wp2_with fail
    rw [← hQ.out]
    exact ⟨rfl, below_on hE0.out hB⟩
  go_wp2_with fail
  refine (law_rising _ _ _ _ _ _ hg1 hn1 (R1.out.later hB) I1.out m1').mono ?_
  rintro x v5 ⟨rfl, hb⟩
  replace hB := below_on hB hb
  clear hb
  cases q1
  · go_wp2_with fail
    rw [← hQ.out]
    exact ⟨rfl, below_on hE0.out hB⟩
  have h30 := fewL_len16 hf0.out hn0.out
  have G0 := hid (good_goodR hg0.out I0.out)
  have h31 := fewL_len16 hf1.out hn1.out
  have G1 := hid (good_goodR hg1.out I1.out)
  clear hf0 hg0 hf1 hg1
  obtain ⟨V, hV⟩ : ∃ V, v5 = V := ⟨_, rfl⟩
  rw [hV] at hB
  try rw [hV]
  clear hV
  have RV0 := hid (R0.out.later hB)
  have RV1 := hid (R1.out.later hB)
  go_upto_block 0 with fail
  go_cut [12] from 37 to 51 (fun s wx => ∃ k : Nat, k ≤ n0 ∧ s = .int .i64 (k : Nat) ∧ Hid (∀ x ∈ L0.take k, x.id < a4) ∧ Hid (∀ x ∈ L0.drop k, a4 ≤ x.id) ∧ V = wx)
  case first =>
    go_wp2_with fail
    go_loopw [12] (fun s wr => ∃ k : Nat, k ≤ n0 ∧ s = .int .i64 (k : Nat) ∧ Hid (∀ x ∈ L0.take k, x.id < a4) ∧ V = wr) (fun s _ => n0 - (intOf s).toNat)
    case atStart => exact ⟨0, by omega, rfl, hid (by simp), rfl⟩
    case round =>
      obtain ⟨k, hk, rfl, hT, rfl⟩ := hrel
      by_cases hlt : k < n0
      · have hlt' : (k : Int) < (n0 : Int) := by omega
        have dlt : decide (k < n0) = true := by simpa using hlt
        obtain ⟨t, ht⟩ := get_th L0 k (by rw [hn0.out]; exact hlt)
        obtain ⟨b, off, hp, hc⟩ := RV0.out.at ht
        subst hp
        obtain ⟨y0, -⟩ := hc
        by_cases hm : t.id < a4
        · have dm : decide (t.id < a4) = true := by simpa using hm
          have e := hid (take_part ht hm hT.out)
          clear ht hm hT hlt
          go_wp2_with fail
          go_roundw
          case rel => exact ⟨k + 1, by omega, by go_num, e, by first | rfl | trivial⟩
          case measure => simp [intOf]; omega
        · have dm : decide (t.id < a4) = false := by simpa using hm
          have e := hid (below_part G0.out.rise ht (show a4 ≤ t.id by omega))
          clear ht hm hlt
          go_wp2_with fail
          go_meet
          case rel => exact ⟨k, by omega, rfl, hT, e, by first | rfl | trivial⟩
      · have dlt : decide (k < n0) = false := by simpa using hlt
        have e := hid (show ∀ x ∈ L0.drop k, a4 ≤ x.id by rw [List.drop_of_length_le (by rw [hn0.out]; omega)]; simp)
        clear hlt
        go_wp2_with fail
        go_meet
        case rel => exact ⟨k, by omega, rfl, hT, e, by first | rfl | trivial⟩
  case rest =>
    obtain ⟨k, hk, rfl, tk, dk, rfl⟩ := hcut
    go_upto_block 2 with fail
    go_cut [13] from 52 to 66 (fun s wx => ∃ j : Nat, j ≤ n1 ∧ s = .int .i64 (j : Nat) ∧ Hid (∀ x ∈ L1.take j, x.id < a4) ∧ Hid (∀ x ∈ L1.drop j, a4 ≤ x.id) ∧ V = wx)
    case first =>
      go_wp2_with fail
      go_loopw [13] (fun s wr => ∃ j : Nat, j ≤ n1 ∧ s = .int .i64 (j : Nat) ∧ Hid (∀ x ∈ L1.take j, x.id < a4) ∧ V = wr) (fun s _ => n1 - (intOf s).toNat)
      case atStart => exact ⟨0, by omega, rfl, hid (by simp), rfl⟩
      case round =>
        obtain ⟨j, hj, rfl, hT, rfl⟩ := hrel
        by_cases hlt : j < n1
        · have hlt' : (j : Int) < (n1 : Int) := by omega
          have dlt : decide (j < n1) = true := by simpa using hlt
          obtain ⟨t, ht⟩ := get_th L1 j (by rw [hn1.out]; exact hlt)
          obtain ⟨b, off, hp, hc⟩ := RV1.out.at ht
          subst hp
          obtain ⟨y0, -⟩ := hc
          by_cases hm : t.id < a4
          · have dm : decide (t.id < a4) = true := by simpa using hm
            have e := hid (take_part ht hm hT.out)
            clear ht hm hT hlt
            go_wp2_with fail
            go_roundw
            case rel => exact ⟨j + 1, by omega, by go_num, e, by first | rfl | trivial⟩
            case measure => simp [intOf]; omega
          · have dm : decide (t.id < a4) = false := by simpa using hm
            have e := hid (below_part G1.out.rise ht (show a4 ≤ t.id by omega))
            clear ht hm hlt
            go_wp2_with fail
            go_meet
            case rel => exact ⟨j, by omega, rfl, hT, e, by first | rfl | trivial⟩
        · have dlt : decide (j < n1) = false := by simpa using hlt
          have e := hid (show ∀ x ∈ L1.drop j, a4 ≤ x.id by rw [List.drop_of_length_le (by rw [hn1.out]; omega)]; simp)
          clear hlt
          go_wp2_with fail
          go_meet
          case rel => exact ⟨j, by omega, rfl, hT, e, by first | rfl | trivial⟩
    case rest =>
      obtain ⟨j, hj, rfl, tj, dj, rfl⟩ := hcut
      obtain ⟨M1, hM1⟩ : ∃ M, Hid (doO (seenL rp (L0.take k)) (seenL rq (L1.take j)) = M) := ⟨_, rfl⟩
      obtain ⟨M2, hM2⟩ : ∃ M, Hid (doO (seenL rp (L0.drop k)) (seenL rq (L1.drop j)) = M) := ⟨_, rfl⟩
      obtain ⟨M, hM⟩ : ∃ M, Hid (doO (seenL rp L0) (seenL rq L1) = M) := ⟨_, rfl⟩
      obtain ⟨m1, hm1⟩ : ∃ n, Hid (M1.length = n) := ⟨_, rfl⟩
      obtain ⟨m2, hm2⟩ : ∃ n, Hid (M2.length = n) := ⟨_, rfl⟩
      obtain ⟨nm, hnm⟩ : ∃ n, Hid (M.length = n) := ⟨_, rfl⟩
      have hap : M1 ++ M2 = M := by rw [← hM1.out, ← hM2.out, ← hM.out]; exact parts_all tk.out tj.out dk.out dj.out
      have hMM : [] ++ flatE M1 ++ flatE M2 = flatE M := by rw [List.nil_append, ← flatE_append, hap]
      have hml : m1 + m2 = nm := by rw [← hm1.out, ← hm2.out, ← hnm.out, ← hap, List.length_append]
      have hnm2 : nm ≤ 60 := by
        have h1 := doO_len (seenL rp L0) (seenL rq L1)
        have h2 := seen_len rp L0
        have h3 := seen_len rq L1
        rw [hM.out, hnm.out] at h1
        rw [hn0.out] at h2
        rw [hn1.out] at h3
        omega
      have lt0 := hid (show (L0.take k).length = k by rw [List.length_take, hn0.out]; omega)
      have lt1 := hid (show (L1.take j).length = j by rw [List.length_take, hn1.out]; omega)
      have ld0 := hid (show (L0.drop k).length = n0 - k by rw [List.length_drop, hn0.out])
      have ld1 := hid (show (L1.drop j).length = n1 - j by rw [List.length_drop, hn1.out])
      have P0 := hid (RV0.out.take k)
      have P1 := hid (RV1.out.take j)
      have D0 := hid (RV0.out.dropK (c := cap0) (k := k) (by rw [hn0.out]; exact d0))
      have D1 := hid (RV1.out.dropK (c := cap1) (k := j) (by rw [hn1.out]; exact d1))
      have hH0 := run_headS (n := n0) (c := cap0) (k := k) (p := a0) (by omega)
      have hH1 := run_headS (n := n1) (c := cap1) (k := j) (p := a1) (by omega)
      have hT0 := run_tailS (n := n0) (c := cap0) (k := k) (p := a0) hk d0
      have hT1 := run_tailS (n := n1) (c := cap1) (k := j) (p := a1) hj d1
      have C1 : ∀ x : World, Below V.heap.size V x → Calls Try.prog 12 #[.slice a0 k cap0, rc rp.x0 rp.y0 rp.x1 rp.y1, .slice a1 j cap1, rc rq.x0 rq.y0 rq.x1 rq.y1] x (OfPost x M1 m1) := fun x h => diff_of (r := rp) (r' := rq) (P0.out.later h) (P1.out.later h) lt0 lt1 (by omega) (by omega) hM1 hm1
      have C2 : ∀ x : World, Below V.heap.size V x → Calls Try.prog 12 #[.slice (dropP a0 cap0 k) (n0 - k) (cap0 - k), rc rp.x0 rp.y0 rp.x1 rp.y1, .slice (dropP a1 cap1 j) (n1 - j) (cap1 - j), rc rq.x0 rq.y0 rq.x1 rq.y1] x (OfPost x M2 m2) := fun x h => diff_of (r := rp) (r' := rq) (D0.out.later h) (D1.out.later h) ld0 ld1 (by omega) (by omega) hM2 hm2
      have SB : ∀ wx : World, Below V.heap.size V wx → (Below V.heap.size V wx ∧ wx.cell? ⟨g0, 0, none⟩ = some (.int .i64 rp.x0) ∧ wx.cell? ⟨g0, 1, none⟩ = some (.int .i64 rp.y0) ∧ wx.cell? ⟨g0, 2, none⟩ = some (.int .i64 rp.x1) ∧ wx.cell? ⟨g0, 3, none⟩ = some (.int .i64 rp.y1) ∧ wx.cell? ⟨g0 + 1, 0, none⟩ = some (.int .i64 rq.x0) ∧ wx.cell? ⟨g0 + 1, 1, none⟩ = some (.int .i64 rq.y0) ∧ wx.cell? ⟨g0 + 1, 2, none⟩ = some (.int .i64 rq.x1) ∧ wx.cell? ⟨g0 + 1, 3, none⟩ = some (.int .i64 rq.y1)) := fun wx hx => ⟨hx, SC wx (below_on hB hx)⟩
      clear tk tj dk dj hap P0 P1 D0 D1 lt0 lt1 ld0 ld1 hM1 hM2
      go_upto_region 11 with fail
      go_cut [14] from 67 to 86 (fun s14 wx => ∃ p c, s14 = .slice p nm c ∧ wx.ownsRow V.heap.size 44 25 (.slice p nm c) nm (flatE M) ∧ Below V.heap.size V wx)
      case first =>
        refine wp_region_held_drew (S := fun w' => Below V.heap.size V w' ∧ w'.cell? ⟨g0, 0, none⟩ = some (.int .i64 rp.x0) ∧ w'.cell? ⟨g0, 1, none⟩ = some (.int .i64 rp.y0) ∧ w'.cell? ⟨g0, 2, none⟩ = some (.int .i64 rp.x1) ∧ w'.cell? ⟨g0, 3, none⟩ = some (.int .i64 rp.y1) ∧ w'.cell? ⟨g0 + 1, 0, none⟩ = some (.int .i64 rq.x0) ∧ w'.cell? ⟨g0 + 1, 1, none⟩ = some (.int .i64 rq.y0) ∧ w'.cell? ⟨g0 + 1, 2, none⟩ = some (.int .i64 rq.x1) ∧ w'.cell? ⟨g0 + 1, 3, none⟩ = some (.int .i64 rq.y1)) (by kernel_rfl) (SB _ (Below.refl _ _).drew) (fun hHeld => ?_)
        refine take_yes (i := 0) (v := ?v0c) rfl (by kernel_rfl) (by kernel_rfl) (by kernel_rfl) (fun _ _ _ h => h) (by rfl) ?hy0c hHeld ?rest0c
        case hy0c =>
          intro w' hSw
          obtain ⟨-, s0, s1, s2, s3, s4, s5, s6, s7⟩ := hSw
          go_simp <;> with_reducible rfl
        try simp only [Act.put, List.setIfInBounds_toArray, List.set_cons_zero, List.set_cons_succ]
        refine take_yes (i := 1) (v := ?v1c) rfl (by kernel_rfl) (by kernel_rfl) (by kernel_rfl) (fun _ _ _ h => h) (by rfl) ?hy1c hHeld ?rest1c
        case hy1c =>
          intro w' hSw
          obtain ⟨-, s0, s1, s2, s3, s4, s5, s6, s7⟩ := hSw
          go_simp <;> with_reducible rfl
        try simp only [Act.put, List.setIfInBounds_toArray, List.set_cons_zero, List.set_cons_succ]
        refine take_yes (i := 2) (v := ?v2c) rfl (by kernel_rfl) (by kernel_rfl) (by kernel_rfl) (fun _ _ _ h => h) (by rfl) ?hy2c hHeld ?rest2c
        case hy2c =>
          intro w' hSw
          obtain ⟨-, s0, s1, s2, s3, s4, s5, s6, s7⟩ := hSw
          go_simp <;> with_reducible rfl
        try simp only [Act.put, List.setIfInBounds_toArray, List.set_cons_zero, List.set_cons_succ]
        refine take_yes (i := 3) (v := ?v3c) rfl (by kernel_rfl) (by kernel_rfl) (by kernel_rfl) (fun _ _ _ h => h) (by rfl) ?hy3c hHeld ?rest3c
        case hy3c =>
          intro w' hSw
          obtain ⟨-, s0, s1, s2, s3, s4, s5, s6, s7⟩ := hSw
          go_simp <;> with_reducible rfl
        try simp only [Act.put, List.setIfInBounds_toArray, List.set_cons_zero, List.set_cons_succ]
        refine take_yes (i := 4) (v := ?v4c) rfl (by kernel_rfl) (by kernel_rfl) (by kernel_rfl) (fun _ _ _ h => h) (by rfl) ?hy4c hHeld ?rest4c
        case hy4c =>
          intro w' hSw
          obtain ⟨-, s0, s1, s2, s3, s4, s5, s6, s7⟩ := hSw
          go_simp <;> with_reducible rfl
        try simp only [Act.put, List.setIfInBounds_toArray, List.set_cons_zero, List.set_cons_succ]
        refine take_yes (i := 5) (v := ?v5c) rfl (by kernel_rfl) (by kernel_rfl) (by kernel_rfl) (fun _ _ _ h => h) (by rfl) ?hy5c hHeld ?rest5c
        case hy5c =>
          intro w' hSw
          obtain ⟨-, s0, s1, s2, s3, s4, s5, s6, s7⟩ := hSw
          go_simp <;> with_reducible rfl
        try simp only [Act.put, List.setIfInBounds_toArray, List.set_cons_zero, List.set_cons_succ]
        refine take_yes (i := 6) (v := ?v6c) rfl (by kernel_rfl) (by kernel_rfl) (by kernel_rfl) (fun _ _ _ h => h) (by rfl) ?hy6c hHeld ?rest6c
        case hy6c =>
          intro w' hSw
          obtain ⟨-, s0, s1, s2, s3, s4, s5, s6, s7⟩ := hSw
          go_simp <;> with_reducible rfl
        try simp only [Act.put, List.setIfInBounds_toArray, List.set_cons_zero, List.set_cons_succ]
        refine take_yes (i := 7) (v := ?v7c) rfl (by kernel_rfl) (by kernel_rfl) (by kernel_rfl) (fun _ _ _ h => h) (by rfl) ?hy7c hHeld ?rest7c
        case hy7c =>
          intro w' hSw
          obtain ⟨-, s0, s1, s2, s3, s4, s5, s6, s7⟩ := hSw
          go_simp <;> with_reducible rfl
        try simp only [Act.put, List.setIfInBounds_toArray, List.set_cons_zero, List.set_cons_succ]
        refine take_yes (i := 10) (v := ?v10c) rfl (by kernel_rfl) (by kernel_rfl) (by kernel_rfl) (fun _ _ _ h => h) (by rfl) ?hy10c hHeld ?rest10c
        case hy10c =>
          intro w' hSw
          obtain ⟨-, s0, s1, s2, s3, s4, s5, s6, s7⟩ := hSw
          go_simp <;> with_reducible rfl
        try simp only [Act.put, List.setIfInBounds_toArray, List.set_cons_zero, List.set_cons_succ]
        refine take_yes (i := 11) (v := ?v11c) rfl (by kernel_rfl) (by kernel_rfl) (by kernel_rfl) (fun _ _ _ h => h) (by rfl) ?hy11c hHeld ?rest11c
        case hy11c =>
          intro w' hSw
          obtain ⟨-, s0, s1, s2, s3, s4, s5, s6, s7⟩ := hSw
          go_simp <;> with_reducible rfl
        try simp only [Act.put, List.setIfInBounds_toArray, List.set_cons_zero, List.set_cons_succ]
        refine take_yes (i := 12) (v := ?v12c) rfl (by kernel_rfl) (by kernel_rfl) (by kernel_rfl) (fun _ _ _ h => h) (by rfl) ?hy12c hHeld ?rest12c
        case hy12c =>
          intro w' hSw
          obtain ⟨-, s0, s1, s2, s3, s4, s5, s6, s7⟩ := hSw
          go_simp <;> with_reducible rfl
        try simp only [Act.put, List.setIfInBounds_toArray, List.set_cons_zero, List.set_cons_succ]
        refine take_yes (i := 13) (v := ?v13c) rfl (by kernel_rfl) (by kernel_rfl) (by kernel_rfl) (fun _ _ _ h => h) (by rfl) ?hy13c hHeld ?rest13c
        case hy13c =>
          intro w' hSw
          obtain ⟨-, s0, s1, s2, s3, s4, s5, s6, s7⟩ := hSw
          go_simp <;> with_reducible rfl
        try simp only [Act.put, List.setIfInBounds_toArray, List.set_cons_zero, List.set_cons_succ]
        refine take_yes (i := 14) (v := ?v14c) rfl (by kernel_rfl) (by kernel_rfl) (by kernel_rfl) (fun _ _ _ h => h) (by rfl) ?hy14c hHeld ?rest14c
        case hy14c =>
          intro w' hSw
          obtain ⟨-, s0, s1, s2, s3, s4, s5, s6, s7⟩ := hSw
          go_simp <;> with_reducible rfl
        try simp only [Act.put, List.setIfInBounds_toArray, List.set_cons_zero, List.set_cons_succ]
        refine take_yes (i := 15) (v := ?v15c) rfl (by kernel_rfl) (by kernel_rfl) (by kernel_rfl) (fun _ _ _ h => h) (by rfl) ?hy15c hHeld ?rest15c
        case hy15c =>
          intro w' hSw
          obtain ⟨-, s0, s1, s2, s3, s4, s5, s6, s7⟩ := hSw
          go_simp <;> with_reducible rfl
        try simp only [Act.put, List.setIfInBounds_toArray, List.set_cons_zero, List.set_cons_succ]
        refine take_yes (i := 16) (v := ?v16c) rfl (by kernel_rfl) (by kernel_rfl) (by kernel_rfl) (fun _ _ _ h => h) (by rfl) ?hy16c hHeld ?rest16c
        case hy16c =>
          intro w' hSw
          obtain ⟨-, s0, s1, s2, s3, s4, s5, s6, s7⟩ := hSw
          go_simp <;> with_reducible rfl
        try simp only [Act.put, List.setIfInBounds_toArray, List.set_cons_zero, List.set_cons_succ]
        refine take_yes (i := 17) (v := ?v17c) rfl (by kernel_rfl) (by kernel_rfl) (by kernel_rfl) (fun _ _ _ h => h) (by rfl) ?hy17c hHeld ?rest17c
        case hy17c =>
          intro w' hSw
          obtain ⟨-, s0, s1, s2, s3, s4, s5, s6, s7⟩ := hSw
          go_simp <;> with_reducible rfl
        try simp only [Act.put, List.setIfInBounds_toArray, List.set_cons_zero, List.set_cons_succ]
        refine wpAnyH_ready (rs := [8]) (by kernel_rfl) (by simp) (cons_at (i := 8) rfl (fun K8c hK8c => ?_) AllReadyH.nil)
        go_simp
        go_at_call 12
        with_reducible refine (C1 _ hHeld.1).mono ?_
        rintro x V8 ⟨p8, c8, rfl, ho8, hb8⟩
        have hB8 := below_on hHeld.1 hb8
        clear hHeld
        go_wp2_with fail
        refine hK8c.out _ _ (SB _ hB8) (fun hHeld => ?_)
        clear hK8c K8c
        try simp only [Act.put, List.setIfInBounds_toArray, List.set_cons_zero, List.set_cons_succ]
        refine wpAnyH_ready (rs := [9]) (by kernel_rfl) (by simp) (cons_at (i := 9) rfl (fun K9d hK9d => ?_) AllReadyH.nil)
        refine step_append_rows (base := V.heap.size) rfl (.const (.slice none 0 0)) (.tmp 75) rfl rfl rfl (World.ownsRow_nil _ _ _ _) ho8 (flatE_cell M1) (by unfold maxLen; omega) (by omega) hB8.size ?_
        intro v9 W9 hown9 hgr9
        have hb9 : Below V8.heap.size V8 W9 := (Below.refl _ _).grown hgr9 (Nat.le_refl _) (fun k hk => by cases hk)
        have hB9 := below_on hB8 hb9
        refine hK9d.out _ _ (SB _ hB9) (fun hHeld => ?_)
        clear hK9d K9d
        try simp only [Act.put, List.setIfInBounds_toArray, List.set_cons_zero, List.set_cons_succ]
        refine wpAnyH_ready (rs := [18]) (by kernel_rfl) (by simp) (cons_at (i := 18) rfl (fun K18f hK18f => ?_) AllReadyH.nil)
        go_simp
        go_at_call 12
        with_reducible refine (C2 _ hHeld.1).mono ?_
        rintro x V18 ⟨p18, c18, rfl, ho18, hb18⟩
        have hB18 := below_on hHeld.1 hb18
        have hown9' := owns_on hown9 hb18
        clear hHeld
        go_wp2_with fail
        refine hK18f.out _ _ (SB _ hB18) (fun hHeld => ?_)
        clear hK18f K18f
        try simp only [Act.put, List.setIfInBounds_toArray, List.set_cons_zero, List.set_cons_succ]
        refine wpAnyH_ready (rs := [19]) (by kernel_rfl) (by simp) (cons_at (i := 19) rfl (fun K19f hK19f => ?_) AllReadyH.nil)
        refine step_append_rows (base := V.heap.size) rfl (.tmp 76) (.tmp 85) rfl rfl rfl hown9' ho18 (flatE_cell M2) (by unfold maxLen; omega) (by omega) hB18.size ?_
        intro v19 W19 hown19 hgr19
        have hB19 := hB18.grown hgr19 hB18.size (fun k hk => (hown9'.lt k hk).1)
        refine hK19f.out _ _ (SB _ hB19) (fun hHeld => ?_)
        clear hK19f K19f
        try simp only [Act.put, List.setIfInBounds_toArray, List.set_cons_zero, List.set_cons_succ]
        refine take_yes (i := 20) (v := ?v20f) rfl (by kernel_rfl) (by kernel_rfl) (by kernel_rfl) (fun _ _ _ h => h) (by rfl) ?hy20f hHeld ?rest20f
        case hy20f =>
          intro w' hSw
          obtain ⟨-, -, -⟩ := hSw
          go_simp <;> with_reducible rfl
        try simp only [Act.put, List.setIfInBounds_toArray, List.set_cons_zero, List.set_cons_succ]
        refine wpAnyH_done (by kernel_rfl) ?_ _
        go_wp2_with fail
        obtain ⟨p19, c19, rfl⟩ := owns_slice hown19
        rw [hMM] at hown19
        have hlen : 0 + m1 + m2 = nm := by omega
        rw [hlen] at hown19
        go_meet
        case rel => exact ⟨p19, c19, by rw [hlen], hown19, hB19⟩
      case rest =>
        obtain ⟨p14, c14, rfl, ho14, hb14⟩ := hcut
        have E14 := hid (rowE_own ho14 hnm.out.symm)
        have hB14 := below_on hB hb14
        have SC1 := SC _ hB14
        obtain ⟨s0, s1, s2, s3, s4, s5, s6, s7⟩ := SC1
        have hSM := hid (sameE_self M)
        clear ho14 hb14 C1 C2 SB hH0 hH1 hT0 hT1
        go_wp2_with fail
        refine (diff_of (r := rp) (r' := rq) (R0.out.later hB14) (R1.out.later hB14) hn0 hn1 (by omega) (by omega) hM hnm).mono ?_
        rintro x v15 ⟨p15, c15, rfl, ho15, hb15⟩
        have E15 := hid (rowE_own ho15 hnm.out.symm)
        have E14b := hid (E14.out.later hb15)
        have hB15 := below_on hB14 hb15
        clear ho15 hb15 hB14 s0 s1 s2 s3 s4 s5 s6 s7
        go_wp2_with fail
        refine (refev_same (q := true) hSM E14b.out E15.out hnm hnm (by omega) (by omega)).mono ?_
        rintro x v16 ⟨rfl, hb16⟩
        have hB16 := below_on hB15 hb16
        clear hb16 hB15
        go_wp2_with fail
        rw [← hQ.out]
        exact ⟨rfl, below_on hE0.out hB16⟩

theorem diffParts_own : ownKnob Try.prog.godebug = none := by kernel_rfl
theorem diffParts_laidOut : laidOutB Try.prog = true := by kernel_rfl
set_option maxRecDepth 100000 in
theorem diffParts_lifted (os : Os) (started : os.Started) (H : Type) (enc : TypeId × Value → H) :
    ReturnsInHanded {} Try.checked os 5 .any (Rows.diffPartsSpec.pre6 enc Try.prog Try.f5 Rows.diffPartsRow.domain false) (Rows.diffPartsSpec.post enc Try.prog Try.f5 false true false false) := by
  refine returnsInHanded_of_change (C := Try.checked) diffParts_own started (by kernel_rfl) Try.func5
    (ChangeSpec.witness6 (enc := enc) (C := Try.checked) false ⟨#[], #[.slice none 0 0, .slice none 0 0, .agg #[.int .i64 0, .int .i64 0, .int .i64 0, .int .i64 0], .agg #[.int .i64 0, .int .i64 0, .int .i64 0, .int .i64 0], .int .u8 0], []⟩ 8 (by kernel_rfl) (by kernel_rfl) (by kernel_rfl) (by kernel_rfl)) ?_
  intro W base args ds gs before hval0 hW hcnd _
  have hval : ∀ (j : Nat) t v, Try.f5.params[j]? = some t → args[j]? = some v → Value.okWide Try.prog W .any base t v := hval0
  have hW' := hW
  obtain ⟨p, q, hA0, hV, rfl, hfz, hnd⟩ := hW
  have hA : DataW.TrodAll enc Try.prog W 0 (fun _ => true) true Try.f5.params.toList args.toList ds p := hA0
  rw [Try.params5] at hA hval
  obtain ⟨v0, vs0, d0, ds0, p0, q0, hargs, rfl, rfl, h0, r0⟩ := trodAll_cons hA
  obtain ⟨v1, vs1, d1, ds1, p1, q1, rfl, rfl, rfl, h1, r1⟩ := trodAll_cons r0
  obtain ⟨v2, vs2, d2, ds2, p2, q2, rfl, rfl, rfl, h2, r2⟩ := trodAll_cons r1
  obtain ⟨v3, vs3, d3, ds3, p3, q3, rfl, rfl, rfl, h3, r3⟩ := trodAll_cons r2
  obtain ⟨v4, vs4, d4, ds4, p4, q4, rfl, rfl, rfl, h4, r4⟩ := trodAll_cons r3
  obtain ⟨rfl, rfl, rfl⟩ := trodAll_nil r4
  obtain rfl : args = #[v0, v1, v2, v3, v4] := by cases args; simp_all
  obtain ⟨rfl, rfl⟩ := trodVars_none hV
  have k0 := h0
  have lt0 : ∀ x ∈ p0, x.block < W.heap.size := by obtain ⟨m, hm⟩ := k0; exact DataW.trod_lt m _ _ _ hm
  have k1 := h1
  have lt1 : ∀ x ∈ p1, x.block < W.heap.size := by obtain ⟨m, hm⟩ := k1; exact DataW.trod_lt m _ _ _ hm
  have k2 := h2
  have lt2 : ∀ x ∈ p2, x.block < W.heap.size := by obtain ⟨m, hm⟩ := k2; exact DataW.trod_lt m _ _ _ hm
  have k3 := h3
  have lt3 : ∀ x ∈ p3, x.block < W.heap.size := by obtain ⟨m, hm⟩ := k3; exact DataW.trod_lt m _ _ _ hm
  have k4 := h4
  have lt4 : ∀ x ∈ p4, x.block < W.heap.size := by obtain ⟨m, hm⟩ := k4; exact DataW.trod_lt m _ _ _ hm
  obtain ⟨a0, cap0, L0, rfl, i0, r0', c0, m0⟩ := open_ths (hval 0 22 v0 rfl rfl) h0
  obtain ⟨a1, cap1, L1, rfl, i1, r1', c1, m1⟩ := open_ths (hval 1 22 v1 rfl rfl) h1
  obtain ⟨c20, c21, c22, c23, y20, y21, y22, y23, n2, rfl, rfl, rfl, t20, t21, t22, t23⟩ := Go.Joins.open_agg4 Try.underlying24 (by kernel_rfl) (by kernel_rfl) (hval 2 24 v2 rfl rfl) h2
  obtain ⟨a20, e20, -, w20⟩ := DataW.trod_int Try.underlying3 t20
  obtain rfl : c20 = .int .i64 a20 := by simpa using e20
  obtain ⟨a21, e21, -, w21⟩ := DataW.trod_int Try.underlying3 t21
  obtain rfl : c21 = .int .i64 a21 := by simpa using e21
  obtain ⟨a22, e22, -, w22⟩ := DataW.trod_int Try.underlying3 t22
  obtain rfl : c22 = .int .i64 a22 := by simpa using e22
  obtain ⟨a23, e23, -, w23⟩ := DataW.trod_int Try.underlying3 t23
  obtain rfl : c23 = .int .i64 a23 := by simpa using e23
  obtain ⟨c30, c31, c32, c33, y30, y31, y32, y33, n3, rfl, rfl, rfl, t30, t31, t32, t33⟩ := Go.Joins.open_agg4 Try.underlying24 (by kernel_rfl) (by kernel_rfl) (hval 3 24 v3 rfl rfl) h3
  obtain ⟨a30, e30, -, w30⟩ := DataW.trod_int Try.underlying3 t30
  obtain rfl : c30 = .int .i64 a30 := by simpa using e30
  obtain ⟨a31, e31, -, w31⟩ := DataW.trod_int Try.underlying3 t31
  obtain rfl : c31 = .int .i64 a31 := by simpa using e31
  obtain ⟨a32, e32, -, w32⟩ := DataW.trod_int Try.underlying3 t32
  obtain rfl : c32 = .int .i64 a32 := by simpa using e32
  obtain ⟨a33, e33, -, w33⟩ := DataW.trod_int Try.underlying3 t33
  obtain rfl : c33 = .int .i64 a33 := by simpa using e33
  obtain ⟨a4, rfl, rfl, rfl, w4⟩ := open_int Try.underlying5 (hval 4 5 v4 rfl rfl) h4
  clear hA0 hval0
  refine (diffParts_walk W a0 cap0 L0 i0 r0' c0 m0 a1 cap1 L1 i1 r1' c1 m1 a20 a21 a22 a23 a30 a31 a32 a33 a4 w4).mono fun e W' ⟨he, bel⟩ => ?_
  subst he
  exact ⟨_, rfl, _, _, _, [], _, [], hW', trodAll_mk1 (shut_bool Try.underlying4 _), (trodAll_cons_mk (Below.trod diffParts_laidOut (by kernel_rfl) (of_decide_eq_true (by kernel_rfl)) k0 bel lt0) (trodAll_cons_mk (Below.trod diffParts_laidOut (by kernel_rfl) (of_decide_eq_true (by kernel_rfl)) k1 bel lt1) (trodAll_cons_mk (Below.trod diffParts_laidOut (by kernel_rfl) (of_decide_eq_true (by kernel_rfl)) k2 bel lt2) (trodAll_cons_mk (Below.trod diffParts_laidOut (by kernel_rfl) (of_decide_eq_true (by kernel_rfl)) k3 bel lt3) (trodAll_cons_mk (Below.trod diffParts_laidOut (by kernel_rfl) (of_decide_eq_true (by kernel_rfl)) k4 bel lt4) trodAll_mk0))))), rfl, bel.frame _, fun h => by cases h⟩

theorem diffParts_over : Rows.diffPartsRow.holds Try.pinned (OpenSpec.ofChange Rows.diffPartsSpec) :=
  OpenClaim.holds_of_wide 5 Try.f5 rfl rfl rfl rfl rfl rfl rfl ⟨rfl, rfl, rfl, rfl, rfl⟩ rfl rfl rfl rfl rfl (by kernel_rfl) Try.func5 (by kernel_rfl)
    (of_decide_eq_true (by kernel_rfl)) (by unfold Func.isWrapper; first | (rw [if_pos (by decide +kernel)]; kernel_rfl) | (rw [if_neg (by decide +kernel)]; exact ⟨rfl, rfl⟩))
    (fun os started H enc _ => diffParts_lifted os started H enc)

theorem diffParts_holds : Rows.DiffPartsSaid := diffParts_over
#print axioms diffParts_holds
end Go.Proofs.Ytjdlcocncacmlaa
