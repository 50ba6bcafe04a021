/- Contracts of Bytes, Read of the package cmd. -/
import Derived.Test.YtpedngbjpbeanaaGreatDoorCE
import Derived.WalkMore
namespace Go.Proofs.YtpedngbjpbeanaaGreatDoor
section
open Go.RowKit
set_option linter.unusedVariables false
/-- the fields' numbers fit, their texts are not too long for the machine -/
def fitC (c : Cm) : Prop := ∀ k, (c.f k).s.size ≤ maxLen ∧ -9223372036854775808 ≤ (c.f k).n ∧ (c.f k).n ≤ 9223372036854775807
theorem fit_sized {c : Cm} (h : fitC c) : sizedC c := fun k => (h k).1
theorem toldL_next {L : List Pa} {k : Nat} {p : Pa} {c : Cm} (hp : L[k]? = some p) : toldL (L.take (k + 1)) c = toldL (L.take k) c ++ p.told c := by
  unfold toldL
  rw [List.take_add_one, hp, List.flatMap_append]
  simp
theorem isC_at {c : Cm} {q : Bool} (h : isCm c = q) (hs : sizedC c) (w : World) : Calls Tryz.prog 63 #[c.v] w fun e w' => e = .returned (.bool q) ∧ Below w.heap.size w w' := by
  rw [← h]; exact cmd_is w c hs
set_option maxHeartbeats 4000000 in
theorem bytes_yes (w : World) (c : Cm) (hs : fitC c) (hi : isCm c = true) : Calls Tryz.prog 46 #[c.v] w fun e w' => e = .returned (.tuple #[.string ⟨(toldL (partsP c.kd) c).toArray⟩, .int .i64 0]) ∧ Below w.heap.size w w' := by
  obtain ⟨W, hW⟩ : ∃ W, W = w.alloc c.o := ⟨_, rfl⟩
  have hB : Below w.heap.size w W := by rw [hW]; exact below1 _ _
  have hA := hid (show W.heap[w.heap.size]? = some c.o by rw [hW]; exact new_at _ _ _ rfl)
  have hlW : w.heap.size < W.heap.size := at_lt hA.out
  obtain ⟨L, hL⟩ : ∃ L, Hid (partsP c.kd = L) := ⟨_, rfl⟩
  have his := hid (show ∀ p ∈ L, p.is c = true by rw [← hL.out]; exact (isC_iff.1 hi).1)
  have hok := hid (show ∀ p ∈ L, p.ok by rw [← hL.out]; exact parts_ok _)
  have hlen : L.length ≤ 9 := by rw [← hL.out]; exact parts_len _
  have HS := hid hs
  have C1 := fun w => isC_at hi (fit_sized hs) w
  rw [hL.out]
  clear hs hi
  go_enter Tryz.func46, Tryz.ntmps46
  go_upto_region 1 with fail
  rw [← hW]
  clear hW
  go_wp2_with (with_reducible refine wpList_load_cm rfl (.tmp 1) rfl rfl hA.out ?_)
  refine (C1 _).mono ?_
  rintro x W0 ⟨rfl, hb0⟩
  have hA0 := hid (var_on hb0 hA.out (at_lt hA.out))
  have hB0 := below_on hB hb0
  have hl0 := at_lt hA0.out
  clear hb0 hA C1
  go_wp2_with fail
  refine (cmd_parts hA0.out).mono ?_
  rintro x W1 ⟨v, rfl, hp, hb1⟩
  rw [hL.out] at hp
  have hA1 := hid (var_on hb1 hA0.out (at_lt hA0.out))
  have hB1 := below_on hB0 hb1
  clear hb1 hA0
  obtain ⟨q, cap, rfl⟩ := owns_slice hp
  have hp1 := hp.mono (base' := w.heap.size + 1) (by omega)
  obtain ⟨n, hn⟩ : ∃ n, Hid (L.length = n) := ⟨_, rfl⟩
  rw [hn.out] at hp1 hlen ⊢
  go_wp2_with fail
  go_loopw [4, 12] (fun s i wr => ∃ (k : Nat) (A : List UInt8), k ≤ n ∧ i = .int .i64 k ∧ s = .string ⟨A.toArray⟩ ∧ toldL (L.take k) c = A ∧ A.length ≤ 32 * k ∧ wr.heap[w.heap.size]? = some c.o ∧ RowP wr (w.heap.size + 1) w.heap.size (.slice q n cap) L ∧ Below w.heap.size w wr) (fun _ i _ => n - (intOf i).toNat)
  case atStart => exact ⟨0, [], by omega, rfl, rfl, rfl, by simp, hA1.out, hp1, hB1⟩
  case round =>
    obtain ⟨k, A, hk, rfl, rfl, hT, hAl, hd, hr, hb⟩ := hrel
    have HD := hid hd
    have HT := hid hT
    have lD := at_lt hd
    clear hd hT hp1 hA1 hB1 hp
    by_cases hlt : k < n
    · have hlt' : (k : Int) < (n : Int) := by omega
      obtain ⟨gp, rfl, -⟩ := hr.some (by omega)
      obtain ⟨p, hpk⟩ : ∃ p, L[k]? = some p := ⟨L[k]'(by rw [hn.out]; exact hlt), by simp⟩
      have hpok := hok.out p (List.mem_of_getElem? hpk)
      have hpis := his.out p (List.mem_of_getElem? hpk)
      have hsh := told_short hpis
      have hnx := hid ((toldL_next (c := c) hpk).trans (by rw [HT.out]))
      have hc0 := part_at hr hpk
      have HR := hid hr
      obtain ⟨T, hT⟩ : ∃ T, Hid (p.told c = T) := ⟨_, rfl⟩
      rw [hT.out] at hsh
      have hnT := hid (hnx.out.trans (by rw [hT.out]))
      clear hpk hr hnx
      rcases p with ⟨j, lo, hi⟩ | j
      · have hc : wr.cell? ⟨gp, k, none⟩ = some (.iface 145 (numV w.heap.size j lo hi)) := hc0
        clear hc0
        have hci := cell_i HD.out hpok.1
        obtain ⟨b1, b2⟩ := is_num.1 hpis
        obtain ⟨-, o1, o2, o3, o4⟩ := hpok
        go_wp2_with fail
        refine (num_told _ hci lo hi (by omega) (by omega)).mono ?_
        rw [show put (zig (c.i j)) = T from hT.out]
        rintro x w2 ⟨rfl, hb2⟩
        have hd2 := hid (var_on hb2 HD.out lD)
        have hr2 := hid (HR.out.on hb2)
        have hB2 := below_on hb hb2
        clear hb2 hb hc hci HD HR lD
        go_wp2_with fail
        go_roundw
        case rel => exact ⟨k + 1, A ++ T, by omega, by go_num, by rw [ByteArray.mk_append_mk], hnT.out, by rw [List.length_append]; omega, hd2.out, hr2.out, hB2⟩
        case measure => simp [intOf]; omega
      · have hc : wr.cell? ⟨gp, k, none⟩ = some (.iface 151 (fldV w.heap.size j)) := hc0
        clear hc0
        obtain ⟨hci, hci'⟩ := cell_f HD.out hpok
        obtain ⟨-, f1, f2⟩ := HS.out j
        have hsz : (c.f j).s.size ≤ 1000000 := by
          have h2 : isF (c.f j) = true := hpis
          unfold isF at h2
          simp only [Bool.and_eq_true, decide_eq_true_eq] at h2
          omega
        go_wp2_with fail
        refine (fld_told _ hci hci' hsz f1 f2).mono ?_
        rw [show text (c.f j).s.data.toList ++ put (zig (c.f j).n) = T from hT.out]
        rintro x w2 ⟨rfl, hb2⟩
        have hd2 := hid (var_on hb2 HD.out lD)
        have hr2 := hid (HR.out.on hb2)
        have hB2 := below_on hb hb2
        clear hb2 hb hc hci hci' HD HR lD
        go_wp2_with fail
        go_roundw
        case rel => exact ⟨k + 1, A ++ T, by omega, by go_num, by rw [ByteArray.mk_append_mk], hnT.out, by rw [List.length_append]; omega, hd2.out, hr2.out, hB2⟩
        case measure => simp [intOf]; omega
    · obtain rfl : k = n := by omega
      have hlt' : ¬ (k : Int) < (k : Int) := by omega
      have he : toldL L c = A := by
        rw [← HT.out, List.take_of_length_le (by rw [hn.out]; omega)]
      go_wp2_with fail
      exact bodyPost_ret (v := .tuple #[.string ⟨A.toArray⟩, .int .i64 0]) (by simp [results, Tryz.results46, go_sem]) rfl ⟨rfl, hb⟩
theorem bytes_no (w : World) (c : Cm) (hs : sizedC c) (hi : isCm c = false) : Calls Tryz.prog 46 #[c.v] w fun e w' => e = .returned (.tuple #[.string ⟨#[]⟩, .int .i64 11]) ∧ Below w.heap.size w w' := by
  obtain ⟨W, hW⟩ : ∃ W, W = w.alloc c.o := ⟨_, rfl⟩
  have hB : Below w.heap.size w W := by rw [hW]; exact below1 _ _
  have hA := hid (show W.heap[w.heap.size]? = some c.o by rw [hW]; exact new_at _ _ _ rfl)
  have C1 := fun w => isC_at hi hs w
  clear hs hi
  go_enter Tryz.func46, Tryz.ntmps46
  go_upto_region 1 with fail
  rw [← hW]
  clear hW
  go_wp2_with (with_reducible refine wpList_load_cm rfl (.tmp 1) rfl rfl hA.out ?_)
  refine (C1 _).mono ?_
  rintro x W0 ⟨rfl, hb0⟩
  have hB0 := below_on hB hb0
  go_wp2_with fail
  exact bodyPost_ret (v := .tuple #[.string ⟨#[]⟩, .int .i64 11]) (by simp [results, Tryz.results46, go_sem]) rfl ⟨rfl, hB0⟩
theorem bytes_at {c : Cm} {B : List UInt8} {e : Nat} (h : Hid (bytesC c = (B, e))) (hs : fitC c) (w : World) : Calls Tryz.prog 46 #[c.v] w fun x w' => x = .returned (.tuple #[.string ⟨B.toArray⟩, .int .i64 e]) ∧ Below w.heap.size w w' := by
  have h' := h.out
  unfold bytesC at h'
  cases hi : isCm c
  · rw [hi, if_neg (by simp)] at h'
    simp only [Prod.mk.injEq] at h'
    obtain ⟨rfl, rfl⟩ := h'
    exact bytes_no w c (fit_sized hs) hi
  · rw [hi, if_pos rfl] at h'
    simp only [Prod.mk.injEq] at h'
    obtain ⟨rfl, rfl⟩ := h'
    exact bytes_yes w c hs hi
end
section
open Go.RowKit
set_option linter.unusedVariables false
theorem part_read_le {d d' : Cm} {l : List UInt8} {p : Pa} {i e : Nat} (h : p.read d l = (d', i, e)) : i ≤ l.length ∧ (e = 0 ∨ e = 10 ∨ e = 11 ∨ e = 13) := by
  rcases p with ⟨k, lo, hi⟩ | k
  · have h' : numR d k lo hi l = (d', i, e) := h
    rcases hg : get l with ⟨n, j, x⟩
    obtain ⟨h1, h2, h3, h4, h5⟩ := get_ok hg
    unfold numR at h'
    rw [hg] at h'
    simp only at h'
    split at h'
    · simp only [Prod.mk.injEq] at h'; omega
    · split at h' <;> (simp only [Prod.mk.injEq] at h'; omega)
  · have h' : fldR d k l = (d', i, e) := h
    rcases ht : texts l 12 with ⟨u, j, x⟩
    obtain ⟨t1, t2, t3, t4, t5⟩ := texts_ok ht
    rcases hg : get (l.drop j) with ⟨n, j2, x2⟩
    obtain ⟨h1, h2, h3, h4, h5⟩ := get_ok hg
    rw [List.length_drop] at h2
    unfold fldR at h'
    rw [ht] at h'
    simp only at h'
    rw [hg] at h'
    simp only at h'
    split at h'
    · simp only [Prod.mk.injEq] at h'; omega
    · split at h'
      · simp only [Prod.mk.injEq] at h'; omega
      · split at h' <;> (simp only [Prod.mk.injEq] at h'; omega)
theorem readL_step {s : List UInt8} {L : List Pa} {k : Nat} {p : Pa} {d : Cm} {z : Nat} (hp : L[k]? = some p) : readL s (L.drop k) d z = if (p.read d (s.drop z)).2.2 ≠ 0 then ((p.read d (s.drop z)).1, z, (p.read d (s.drop z)).2.2) else readL s (L.drop (k + 1)) (p.read d (s.drop z)).1 (z + (p.read d (s.drop z)).2.1) := by
  have hlt : k < L.length := (List.getElem?_eq_some_iff.1 hp).1
  have e : L[k] = p := (List.getElem?_eq_some_iff.1 hp).2
  rw [List.drop_eq_getElem_cons hlt, e]; rfl
theorem readL_bad {s : List UInt8} {L : List Pa} {k : Nat} {p : Pa} {d d' : Cm} {z i e : Nat} {r : Cm × Nat × Nat} (hr : readL s (L.drop k) d z = r) (hp : L[k]? = some p) (h : p.read d (s.drop z) = (d', i, e)) (he : ¬ e = 0) : r = (d', z, e) := by
  rw [← hr, readL_step hp, h]; simp only; rw [if_pos he]
theorem readL_good {s : List UInt8} {L : List Pa} {k : Nat} {p : Pa} {d d' : Cm} {z i : Nat} {r : Cm × Nat × Nat} (hr : readL s (L.drop k) d z = r) (hp : L[k]? = some p) (h : p.read d (s.drop z) = (d', i, 0)) : readL s (L.drop (k + 1)) d' (z + i) = r := by
  rw [← hr, readL_step hp, h]; simp only; rw [if_neg (by simp)]
theorem readC_bad {s : List UInt8} {c1 : Cm} {z1 e1 : Nat} (h : readL s headP zC 0 = (c1, z1, e1)) (he : ¬ e1 = 0) : readC s = (zC, 0, e1) := by
  unfold readC; rw [h]; simp only; rw [if_pos he]
theorem readC_bad2 {s : List UInt8} {c1 c2 : Cm} {z1 z2 e2 : Nat} (h : readL s headP zC 0 = (c1, z1, 0)) (h2 : readL s (restP c1.kd) c1 z1 = (c2, z2, e2)) (he : ¬ e2 = 0) : readC s = (zC, 0, e2) := by
  unfold readC; rw [h]; simp only; rw [h2]; simp only; rw [if_neg (by simp), if_pos he]
theorem readC_good {s : List UInt8} {c1 c2 : Cm} {z1 z2 : Nat} (h : readL s headP zC 0 = (c1, z1, 0)) (h2 : readL s (restP c1.kd) c1 z1 = (c2, z2, 0)) : readC s = (c2, z2, 0) := by
  unfold readC; rw [h]; simp only; rw [h2]; simp only; rw [if_neg (by simp), if_neg (by simp)]
theorem one22 (c : Cm) : (#[.int .i64 c.kd, .int .i64 c.id, .int .i64 c.wh, .int .i64 c.tt, .int .i64 c.x, .int .i64 c.y, .int .i64 c.f0.n, .string c.f0.s, .int .i64 c.f1.n, .string c.f1.s, .int .i64 c.f2.n, .string c.f2.s, .int .i64 c.f3.n, .string c.f3.s, .int .i64 c.va.n, .string c.va.s, .int .i64 c.cl, .int .i64 c.se, .int .i64 c.r0, .int .i64 c.r1, .int .i64 c.r2, .int .i64 c.r3] : Array Value).all (·.oneCell') = true := by simp [Value.oneCell']
theorem wpList_store_cm {ops : Array Oper} {rest : List Oper} {o : Oper} {a : Act} {W : World} {Q : Exit → Act → World → Prop} (hgd : o.guard = none) (x y : Operand) (ho : o.op = .store 57 x y)
    {g : Nat} {c d : Cm} (hx : a.eval x = .pointer (some ⟨g, 0, none⟩)) (hy : a.eval y = c.v) (h : W.heap[g]? = some d.o) (k : ∀ W', W'.heap[g]? = some c.o → But g W W' → W'.heap.size = W.heap.size → wpList Tryz.prog ops Q rest (a.put o.dst undef) W') : wpList Tryz.prog ops Q (o :: rest) a W :=
  wpList_store_row hgd _ x y ho g _ hx hy _ _ h Tryz.size30 rfl (one22 c) (k _ (setRow_heap W g _ _ _ _ h) ⟨rfl, rfl, rfl, by simp, fun i hi hg => setRow_other W g i _ hg⟩ (by simp))
theorem load_var {W : World} {g : Nat} {c : Cm} (h : W.heap[g]? = some c.o) : (loadVar 57 ⟨g, 0, none⟩).run Tryz.prog W = .ok c.v W :=
  run_loadVar_row W g _ _ _ _ _ h Tryz.underlying57 rfl Tryz.size30
theorem results_read {tmps : Array Value} {W : World} {g : Nat} {c : Cm} {z e : Int} (h2 : tmps.getD 2 undef = .pointer (some ⟨g, 0, none⟩)) (h3 : tmps.getD 3 undef = .int .i64 z) (h4 : tmps.getD 4 undef = .int .i64 e) (h : W.heap[g]? = some c.o) :
    (results Tryz.f47 tmps).run Tryz.prog W = .ok (.tuple #[c.v, .int .i64 z, .int .i64 e]) W := by
  have hl := load_var h
  have h2' : tmps[2]?.getD undef = .pointer (some ⟨g, 0, none⟩) := by simpa using h2
  have h3' : tmps[3]?.getD undef = .int .i64 z := by simpa using h3
  have h4' : tmps[4]?.getD undef = .int .i64 e := by simpa using h4
  simp [results, Tryz.results47, h2', h3', h4', asAddr, hl]
theorem num_read_at {w : World} {g k : Nat} {c c' : Cm} (h : w.heap[g]? = some c.o) (hk : plI k) {lo hi : Int} {s : ByteArray} {z i e : Nat} (HR : Hid (numR c k lo hi (s.data.toList.drop z) = (c', i, e))) (hs : s.size ≤ 1000000) :
    Calls Tryz.prog 125 #[numV g k lo hi, .string (s.extract z s.size)] w fun x w' => x = .returned (.tuple #[.int .i64 i, .int .i64 e]) ∧ w'.heap[g]? = some c'.o ∧ But g w w' :=
  num_read h hk (r := (c', i, e)) (by rw [cut_data]; exact HR) (by rw [ByteArray.size_extract]; omega)
theorem fld_read_at {w : World} {g k : Nat} {c c' : Cm} (h : w.heap[g]? = some c.o) (hk : atF k) {s : ByteArray} {z i e : Nat} (HR : Hid (fldR c k (s.data.toList.drop z) = (c', i, e))) (hs : s.size ≤ 1000000) :
    Calls Tryz.prog 129 #[fldV g k, .string (s.extract z s.size)] w fun x w' => x = .returned (.tuple #[.int .i64 i, .int .i64 e]) ∧ w'.heap[g]? = some c'.o ∧ But g w w' :=
  fld_read h hk (r := (c', i, e)) (by rw [cut_data]; exact HR) (by rw [ByteArray.size_extract]; omega)
end
section
open Go.RowKit
set_option linter.unusedVariables false
abbrev zeroO : Obj := .cells #[.int .i64 0, .int .i64 0, .int .i64 0, .int .i64 0, .int .i64 0, .int .i64 0, .int .i64 0, .string ⟨#[]⟩, .int .i64 0, .string ⟨#[]⟩, .int .i64 0, .string ⟨#[]⟩, .int .i64 0, .string ⟨#[]⟩, .int .i64 0, .string ⟨#[]⟩, .int .i64 0, .int .i64 0, .int .i64 0, .int .i64 0, .int .i64 0, .int .i64 0] 57 (0, 0)
theorem index_fn0 : ∀ W : World, (Instr.index 134 (.agg #[.func (.func 74) #[] #[], .func (.func 75) #[] #[]]) (.int .i64 0)).run Tryz.prog W = .ok (.func (.func 74) #[] #[]) W := fun W => by kernel_rfl
theorem index_fn1 : ∀ W : World, (Instr.index 134 (.agg #[.func (.func 74) #[] #[], .func (.func 75) #[] #[]]) (.int .i64 1)).run Tryz.prog W = .ok (.func (.func 75) #[] #[]) W := fun W => by kernel_rfl
theorem nil_num (g k : Nat) (lo hi : Int) : ∀ W : World, (nilAhead 282 145 (numV g k lo hi) "vedette/cmd.read").run Tryz.prog W = .ok (some false) W := fun W => by kernel_rfl
theorem nil_fld (g k : Nat) : ∀ W : World, (nilAhead 282 151 (fldV g k) "vedette/cmd.read").run Tryz.prog W = .ok (some false) W := fun W => by kernel_rfl
abbrev zeroV : Value := .agg #[.int .i64 0, .int .i64 0, .int .i64 0, .int .i64 0, .int .i64 0, .int .i64 0, .int .i64 0, .string ⟨#[]⟩, .int .i64 0, .string ⟨#[]⟩, .int .i64 0, .string ⟨#[]⟩, .int .i64 0, .string ⟨#[]⟩, .int .i64 0, .string ⟨#[]⟩, .int .i64 0, .int .i64 0, .int .i64 0, .int .i64 0, .int .i64 0, .int .i64 0]
theorem wpList_store_zero {ops : Array Oper} {rest : List Oper} {o : Oper} {a : Act} {W : World} {Q : Exit → Act → World → Prop} (hgd : o.guard = none) (x y : Operand) (ho : o.op = .store 57 x y)
    {g : Nat} {d : Cm} (hx : a.eval x = .pointer (some ⟨g, 0, none⟩)) (hy : a.eval y = zeroV) (h : W.heap[g]? = some d.o) (k : ∀ W', W'.heap[g]? = some zC.o → But g W W' → W'.heap.size = W.heap.size → wpList Tryz.prog ops Q rest (a.put o.dst undef) W') : wpList Tryz.prog ops Q (o :: rest) a W :=
  wpList_store_cm (c := zC) hgd x y ho hx hy h k
set_option maxHeartbeats 8000000 in
theorem cmd_read {s : ByteArray} {cc : Cm} {zz ee : Nat} (h : Hid (readC s.data.toList = (cc, zz, ee))) (hs : s.size ≤ 1000000) (w : World) :
    Calls Tryz.prog 47 #[.string s] w fun x w' => x = .returned (.tuple #[cc.v, .int .i64 zz, .int .i64 ee]) ∧ Below w.heap.size w w' := by
  obtain ⟨W, hW⟩ : ∃ W, W = (w.alloc zeroO).alloc zeroO := ⟨_, rfl⟩
  have hB : Below w.heap.size w W := by rw [hW]; exact Go.Joins.below_alloc2 _ _ _
  have hA := hid (show W.heap[w.heap.size]? = some zC.o by rw [hW]; exact old_at (new_at _ _ _ rfl) _)
  have hC := hid (show W.heap[w.heap.size + 1]? = some zC.o by rw [hW]; exact new_at _ _ _ (by simp))
  go_enter Tryz.func47, Tryz.ntmps47
  go_wp2_with fail
  go_step3
  go_wp2_with fail
  rw [← hW]
  clear hW
  go_step3
  go_wp2_with fail
  obtain ⟨S, hS⟩ : ∃ S, Hid (s.data.toList = S) := ⟨_, rfl⟩
  rw [hS.out] at h
  have eS : S.length = s.size := by rw [← hS.out]; rfl
  go_loopw [6, 7, 14] (fun sz er i wr => ∃ k : Nat, i = .int .i64 k ∧ er = .int .i64 0 ∧ wr.heap[w.heap.size]? = some zC.o ∧ Below w.heap.size w wr ∧
    ((k = 0 ∧ sz = .int .i64 0 ∧ wr.heap[w.heap.size + 1]? = some zC.o) ∨ (k = 1 ∧ ∃ (c1 : Cm) (z1 : Nat), readL S headP zC 0 = (c1, z1, 0) ∧ z1 ≤ s.size ∧ sz = .int .i64 z1 ∧ wr.heap[w.heap.size + 1]? = some c1.o) ∨
      (k = 2 ∧ ∃ (c2 : Cm) (z2 : Nat), readC S = (c2, z2, 0) ∧ sz = .int .i64 z2 ∧ wr.heap[w.heap.size + 1]? = some c2.o))) (fun _ _ i _ => 2 - (intOf i).toNat)
  case atStart => exact ⟨0, rfl, rfl, hA.out, hB, .inl ⟨rfl, rfl, hC.out⟩⟩
  case round =>
    obtain ⟨k, rfl, rfl, h0, hb, hcase⟩ := hrel
    have H0 := hid h0
    clear h0 hA hC hB
    rcases hcase with ⟨rfl, rfl, h1⟩ | ⟨rfl, c1, z1, hr1, hz1, rfl, h1⟩ | ⟨rfl, c2, z2, hr2, rfl, h1⟩
    · have H1 := hid h1
      have hg1 : w.heap.size + 1 < wr.heap.size := at_lt h1
      have hI := index_fn0
      clear h1
      go_wp2_with fail
      refine (cmd_head hg1).mono ?_
      rintro x W1 ⟨q, cap, rfl, hp, hb1⟩
      have J0 := hid (var_on hb1 H0.out (at_lt H0.out))
      have J1 := hid (var_on hb1 H1.out hg1)
      have hB1 := below_on hb hb1
      have hp1 := hp.mono (base' := w.heap.size + 2) (by omega)
      have hLok := hid head_ok
      rcases hres : readL S headP zC 0 with ⟨cA, zA, eA⟩
      have HE := hid hres
      clear hb1 hp H0 H1 hb hres hg1 hI
      clear wr
      go_wp2_with fail
      go_loopw [6, 7, 20] (fun sz er i wr => ∃ (j z : Nat) (d : Cm), j ≤ 3 ∧ i = .int .i64 j ∧ er = .int .i64 0 ∧ sz = .int .i64 z ∧ z ≤ s.size ∧ wr.heap[w.heap.size + 1]? = some d.o ∧ wr.heap[w.heap.size]? = some zC.o ∧ RowP wr (w.heap.size + 2) (w.heap.size + 1) (.slice q 3 cap) headP ∧ readL S (headP.drop j) d z = (cA, zA, eA) ∧ Below w.heap.size w wr) (fun _ _ i _ => 3 - (intOf i).toNat)
      case atStart => exact ⟨0, 0, zC, by omega, rfl, rfl, rfl, by omega, J1.out, J0.out, hp1, HE.out, hB1⟩
      case round =>
        obtain ⟨j, z, d, hj, rfl, rfl, rfl, hz, hd, h0, hr, hres, hb⟩ := hrel
        have HD := hid hd
        have H0 := hid h0
        have HZ := hid hres
        have lD := at_lt hd
        clear hd h0 hres hp1 J0 J1 hB1
        by_cases hlt : j < 3
        · have hlt' : (j : Int) < (3 : Int) := by omega
          obtain ⟨gp, rfl, -⟩ := hr.some (by omega)
          obtain ⟨p, hpk⟩ : ∃ p, headP[j]? = some p := ⟨headP[j]'hlt, List.getElem?_eq_getElem hlt⟩
          have hpok := hLok.out p (List.mem_of_getElem? hpk)
          have hc0 := part_at hr hpk
          have HP := hid hpk
          have HR := hid hr
          rcases hrd : p.read d (S.drop z) with ⟨d', i, e'⟩
          obtain ⟨hi0, he0⟩ := part_read_le hrd
          have HRD := hid hrd
          rw [List.length_drop] at hi0
          have hzi : z + i ≤ s.size := by omega
          clear hpk hr hrd hi0
          rcases p with ⟨pk, lo, hi⟩ | pk
          · have hc : wr.cell? ⟨gp, j, none⟩ = some (.iface 145 (numV (w.heap.size + 1) pk lo hi)) := hc0
            clear hc0
            have HRD2 : Hid (numR d pk lo hi (s.data.toList.drop z) = (d', i, e')) := by show _ = _; rw [hS.out]; exact HRD.out
            have jz1 : (0 : Int) ≤ (z : Int) := by omega
            have jz2 : (z : Int) ≤ (s.size : Int) := by omega
            have jN := nil_num (w.heap.size + 1) pk lo hi
            go_wp2_with fail
            go_region_held3 (fun _ => True) (trivial)
              (first
                | (go_at_call 125
                   refine (num_read_at (w := wr.drew) HD.out hpok.1 HRD2 hs).mono ?_
                   rintro x w2 ⟨rfl, hd2, hbut⟩))
            have hB2 := hbut.below hb.drew (by omega)
            have h02 := hbut.at (w := wr.drew) H0.out (by omega)
            have hr2 := RowP.but (W := wr.drew) HR.out hbut (by omega)
            clear hc jN HD H0 HR hb lD HRD2 hbut
            by_cases he : e' = 0
            · subst he
              go_wp2_with fail
              go_roundw
              case rel => exact ⟨j + 1, z + i, d', by omega, by go_num, rfl, by go_num, hzi, hd2, h02, hr2, readL_good HZ.out HP.out HRD.out, hB2⟩
              case measure => simp [intOf]; omega
            · have hbad := readL_bad HZ.out HP.out HRD.out he
              simp only [Prod.mk.injEq] at hbad
              obtain ⟨rfl, rfl, rfl⟩ := hbad
              have q1 : ((eA : Int) != 0) = true := by simpa using he
              have hfin := h.out
              rw [readC_bad HE.out he] at hfin
              simp only [Prod.mk.injEq] at hfin
              obtain ⟨rfl, rfl, rfl⟩ := hfin
              go_wp2_with ((with_reducible refine wpList_store_zero rfl (.tmp 2) (.tmp 44) rfl rfl rfl h02 ?_); intro W9 h9 hb9 hs9)
              rw [Exit.noGoto_ret]
              exact bodyPost_ret (v := .tuple #[zC.v, .int .i64 0, .int .i64 eA]) (results_read rfl rfl rfl h9) rfl ⟨rfl, hb9.below hB2 (Nat.le_refl _)⟩
          · have hc : wr.cell? ⟨gp, j, none⟩ = some (.iface 151 (fldV (w.heap.size + 1) pk)) := hc0
            clear hc0
            have HRD2 : Hid (fldR d pk (s.data.toList.drop z) = (d', i, e')) := by show _ = _; rw [hS.out]; exact HRD.out
            have jz1 : (0 : Int) ≤ (z : Int) := by omega
            have jz2 : (z : Int) ≤ (s.size : Int) := by omega
            have jN := nil_fld (w.heap.size + 1) pk
            go_wp2_with fail
            go_region_held3 (fun _ => True) (trivial)
              (first
                | (go_at_call 129
                   refine (fld_read_at (w := wr.drew) HD.out hpok HRD2 hs).mono ?_
                   rintro x w2 ⟨rfl, hd2, hbut⟩))
            have hB2 := hbut.below hb.drew (by omega)
            have h02 := hbut.at (w := wr.drew) H0.out (by omega)
            have hr2 := RowP.but (W := wr.drew) HR.out hbut (by omega)
            clear hc jN HD H0 HR hb lD HRD2 hbut
            by_cases he : e' = 0
            · subst he
              go_wp2_with fail
              go_roundw
              case rel => exact ⟨j + 1, z + i, d', by omega, by go_num, rfl, by go_num, hzi, hd2, h02, hr2, readL_good HZ.out HP.out HRD.out, hB2⟩
              case measure => simp [intOf]; omega
            · have hbad := readL_bad HZ.out HP.out HRD.out he
              simp only [Prod.mk.injEq] at hbad
              obtain ⟨rfl, rfl, rfl⟩ := hbad
              have q1 : ((eA : Int) != 0) = true := by simpa using he
              have hfin := h.out
              rw [readC_bad HE.out he] at hfin
              simp only [Prod.mk.injEq] at hfin
              obtain ⟨rfl, rfl, rfl⟩ := hfin
              go_wp2_with ((with_reducible refine wpList_store_zero rfl (.tmp 2) (.tmp 44) rfl rfl rfl h02 ?_); intro W9 h9 hb9 hs9)
              rw [Exit.noGoto_ret]
              exact bodyPost_ret (v := .tuple #[zC.v, .int .i64 0, .int .i64 eA]) (results_read rfl rfl rfl h9) rfl ⟨rfl, hb9.below hB2 (Nat.le_refl _)⟩
        · obtain rfl : j = 3 := by omega
          have hlt' : ¬ ((3 : Nat) : Int) < (3 : Int) := by omega
          have hend : (d, z, 0) = (cA, zA, eA) := HZ.out
          simp only [Prod.mk.injEq] at hend
          obtain ⟨rfl, rfl, rfl⟩ := hend
          go_wp2_with fail
          go_roundw
          case rel => exact ⟨1, rfl, rfl, H0.out, hb, .inr (.inl ⟨rfl, d, z, HE.out, hz, rfl, HD.out⟩)⟩
          case measure => simp [intOf]
    · have H1 := hid h1
      have hg1 : w.heap.size + 1 < wr.heap.size := at_lt h1
      have hI := index_fn1
      have HA := hid hr1
      clear h1 hr1
      go_wp2_with fail
      refine (cmd_rest H1.out).mono ?_
      rintro x W1 ⟨v, rfl, hp, hb1⟩
      have J0 := hid (var_on hb1 H0.out (at_lt H0.out))
      have J1 := hid (var_on hb1 H1.out hg1)
      have hB1 := below_on hb hb1
      obtain ⟨q, cap, rfl⟩ := owns_slice hp
      have hp1 := hp.mono (base' := w.heap.size + 2) (by omega)
      rcases hres : readL S (restP c1.kd) c1 z1 with ⟨cA, zA, eA⟩
      have HE := hid hres
      obtain ⟨L, hL⟩ : ∃ L, Hid (restP c1.kd = L) := ⟨_, rfl⟩
      have HE1 := hid (show readL S L c1 z1 = (cA, zA, eA) by rw [← hL.out]; exact hres)
      have hLok := hid (show ∀ p ∈ L, p.ok by rw [← hL.out]; exact rest_ok _)
      have hlen : L.length ≤ 6 := by rw [← hL.out]; exact rest_len _
      rw [hL.out] at hp1
      obtain ⟨n, hn⟩ : ∃ n, Hid (L.length = n) := ⟨_, rfl⟩
      rw [hL.out, hn.out]
      rw [hn.out] at hp1 hlen
      clear hb1 hp H0 H1 hb hres hg1 hI
      clear wr
      go_wp2_with fail
      go_loopw [6, 7, 20] (fun sz er i wr => ∃ (j z : Nat) (d : Cm), j ≤ n ∧ i = .int .i64 j ∧ er = .int .i64 0 ∧ sz = .int .i64 z ∧ z ≤ s.size ∧ wr.heap[w.heap.size + 1]? = some d.o ∧ wr.heap[w.heap.size]? = some zC.o ∧ RowP wr (w.heap.size + 2) (w.heap.size + 1) (.slice q n cap) L ∧ readL S (L.drop j) d z = (cA, zA, eA) ∧ Below w.heap.size w wr) (fun _ _ i _ => n - (intOf i).toNat)
      case atStart => exact ⟨0, z1, c1, by omega, rfl, rfl, rfl, hz1, J1.out, J0.out, hp1, HE1.out, hB1⟩
      case round =>
        obtain ⟨j, z, d, hj, rfl, rfl, rfl, hz, hd, h0, hr, hres, hb⟩ := hrel
        have HD := hid hd
        have H0 := hid h0
        have HZ := hid hres
        have lD := at_lt hd
        clear hd h0 hres hp1 J0 J1 hB1
        by_cases hlt : j < n
        · have hlt' : (j : Int) < (n : Int) := by omega
          obtain ⟨gp, rfl, -⟩ := hr.some (by omega)
          obtain ⟨p, hpk⟩ : ∃ p, L[j]? = some p := ⟨L[j]'(by rw [hn.out]; exact hlt), by simp⟩
          have hpok := hLok.out p (List.mem_of_getElem? hpk)
          have hc0 := part_at hr hpk
          have HP := hid hpk
          have HR := hid hr
          rcases hrd : p.read d (S.drop z) with ⟨d', i, e'⟩
          obtain ⟨hi0, he0⟩ := part_read_le hrd
          have HRD := hid hrd
          rw [List.length_drop] at hi0
          have hzi : z + i ≤ s.size := by omega
          clear hpk hr hrd hi0
          rcases p with ⟨pk, lo, hi⟩ | pk
          · have hc : wr.cell? ⟨gp, j, none⟩ = some (.iface 145 (numV (w.heap.size + 1) pk lo hi)) := hc0
            clear hc0
            have HRD2 : Hid (numR d pk lo hi (s.data.toList.drop z) = (d', i, e')) := by show _ = _; rw [hS.out]; exact HRD.out
            have jz1 : (0 : Int) ≤ (z : Int) := by omega
            have jz2 : (z : Int) ≤ (s.size : Int) := by omega
            have jN := nil_num (w.heap.size + 1) pk lo hi
            go_wp2_with fail
            go_region_held3 (fun _ => True) (trivial)
              (first
                | (go_at_call 125
                   refine (num_read_at (w := wr.drew) HD.out hpok.1 HRD2 hs).mono ?_
                   rintro x w2 ⟨rfl, hd2, hbut⟩))
            have hB2 := hbut.below hb.drew (by omega)
            have h02 := hbut.at (w := wr.drew) H0.out (by omega)
            have hr2 := RowP.but (W := wr.drew) HR.out hbut (by omega)
            clear hc jN HD H0 HR hb lD HRD2 hbut
            by_cases he : e' = 0
            · subst he
              go_wp2_with fail
              go_roundw
              case rel => exact ⟨j + 1, z + i, d', by omega, by go_num, rfl, by go_num, hzi, hd2, h02, hr2, readL_good HZ.out HP.out HRD.out, hB2⟩
              case measure => simp [intOf]; omega
            · have hbad := readL_bad HZ.out HP.out HRD.out he
              simp only [Prod.mk.injEq] at hbad
              obtain ⟨rfl, rfl, rfl⟩ := hbad
              have q1 : ((eA : Int) != 0) = true := by simpa using he
              have hfin := h.out
              rw [readC_bad2 HA.out HE.out he] at hfin
              simp only [Prod.mk.injEq] at hfin
              obtain ⟨rfl, rfl, rfl⟩ := hfin
              go_wp2_with ((with_reducible refine wpList_store_zero rfl (.tmp 2) (.tmp 44) rfl rfl rfl h02 ?_); intro W9 h9 hb9 hs9)
              rw [Exit.noGoto_ret]
              exact bodyPost_ret (v := .tuple #[zC.v, .int .i64 0, .int .i64 eA]) (results_read rfl rfl rfl h9) rfl ⟨rfl, hb9.below hB2 (Nat.le_refl _)⟩
          · have hc : wr.cell? ⟨gp, j, none⟩ = some (.iface 151 (fldV (w.heap.size + 1) pk)) := hc0
            clear hc0
            have HRD2 : Hid (fldR d pk (s.data.toList.drop z) = (d', i, e')) := by show _ = _; rw [hS.out]; exact HRD.out
            have jz1 : (0 : Int) ≤ (z : Int) := by omega
            have jz2 : (z : Int) ≤ (s.size : Int) := by omega
            have jN := nil_fld (w.heap.size + 1) pk
            go_wp2_with fail
            go_region_held3 (fun _ => True) (trivial)
              (first
                | (go_at_call 129
                   refine (fld_read_at (w := wr.drew) HD.out hpok HRD2 hs).mono ?_
                   rintro x w2 ⟨rfl, hd2, hbut⟩))
            have hB2 := hbut.below hb.drew (by omega)
            have h02 := hbut.at (w := wr.drew) H0.out (by omega)
            have hr2 := RowP.but (W := wr.drew) HR.out hbut (by omega)
            clear hc jN HD H0 HR hb lD HRD2 hbut
            by_cases he : e' = 0
            · subst he
              go_wp2_with fail
              go_roundw
              case rel => exact ⟨j + 1, z + i, d', by omega, by go_num, rfl, by go_num, hzi, hd2, h02, hr2, readL_good HZ.out HP.out HRD.out, hB2⟩
              case measure => simp [intOf]; omega
            · have hbad := readL_bad HZ.out HP.out HRD.out he
              simp only [Prod.mk.injEq] at hbad
              obtain ⟨rfl, rfl, rfl⟩ := hbad
              have q1 : ((eA : Int) != 0) = true := by simpa using he
              have hfin := h.out
              rw [readC_bad2 HA.out HE.out he] at hfin
              simp only [Prod.mk.injEq] at hfin
              obtain ⟨rfl, rfl, rfl⟩ := hfin
              go_wp2_with ((with_reducible refine wpList_store_zero rfl (.tmp 2) (.tmp 44) rfl rfl rfl h02 ?_); intro W9 h9 hb9 hs9)
              rw [Exit.noGoto_ret]
              exact bodyPost_ret (v := .tuple #[zC.v, .int .i64 0, .int .i64 eA]) (results_read rfl rfl rfl h9) rfl ⟨rfl, hb9.below hB2 (Nat.le_refl _)⟩
        · obtain rfl : j = n := by omega
          have hlt' : ¬ ((j : Nat) : Int) < (j : Int) := by omega
          have hend : (d, z, 0) = (cA, zA, eA) := by
            rw [← HZ.out, List.drop_of_length_le (by rw [hn.out]; omega)]; rfl
          simp only [Prod.mk.injEq] at hend
          obtain ⟨rfl, rfl, rfl⟩ := hend
          go_wp2_with fail
          go_roundw
          case rel => exact ⟨2, rfl, rfl, H0.out, hb, .inr (.inr ⟨rfl, d, z, readC_good HA.out HE.out, rfl, HD.out⟩)⟩
          case measure => simp [intOf]
    · have hfin := h.out
      rw [hr2] at hfin
      simp only [Prod.mk.injEq] at hfin
      obtain ⟨rfl, rfl, rfl⟩ := hfin
      have HD := hid h1
      clear h1
      go_wp2_with (first
        | with_reducible refine wpList_load_cm rfl (.tmp 5) rfl rfl HD.out ?_
        | (with_reducible refine wpList_store_cm rfl (.tmp 2) (.tmp 46) rfl rfl rfl H0.out ?_
           intro W9 h9 hb9 hs9))
      rw [Exit.noGoto_ret]
      exact bodyPost_ret (v := .tuple #[c2.v, .int .i64 z2, .int .i64 0]) (results_read rfl rfl rfl h9) rfl ⟨rfl, hb9.below hb (Nat.le_refl _)⟩
end
end Go.Proofs.YtpedngbjpbeanaaGreatDoor
