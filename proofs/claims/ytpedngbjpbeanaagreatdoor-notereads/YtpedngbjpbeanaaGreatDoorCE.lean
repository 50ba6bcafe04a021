/- Contract of Is of the package cmd. -/
import Derived.Test.YtpedngbjpbeanaaGreatDoorCC
import Derived.Test.YtpedngbjpbeanaaGreatDoorCD
namespace Go.Proofs.YtpedngbjpbeanaaGreatDoor
section
open Go.RowKit
set_option linter.unusedVariables false
def sizedC (c : Cm) : Prop := ∀ k, (c.f k).s.size ≤ maxLen
theorem f_setI (c : Cm) (k : Nat) (z : Int) : (c.setI k z).f = c.f := by
  unfold Cm.setI
  split <;> rfl
theorem f_setF {P : Fl → Prop} {c : Cm} (h : ∀ k, P (c.f k)) {k : Nat} (hk : atF k) {f : Fl} (hf : P f) : ∀ j, P ((c.setF k f).f j) := by
  have h0 : P c.f0 := h 6
  have h1 : P c.f1 := h 8
  have h2 : P c.f2 := h 10
  have h3 : P c.f3 := h 12
  have h4 : P c.va := h 14
  intro j
  unfold Cm.f
  rcases hk with rfl | rfl | rfl | rfl | rfl <;> split <;> assumption
theorem sized_clr {c : Cm} (h : sizedC c) {p : Pa} (hp : p.ok) : sizedC (p.clr c) := by
  rcases p with ⟨k, lo, hi⟩ | k
  · intro j; show (((c.setI k 0).f j).s.size ≤ maxLen); rw [f_setI]; exact h j
  · exact f_setF (P := fun f => f.s.size ≤ maxLen) h hp (by decide)
theorem part_at {W : World} {base g gp n cap : Nat} {L : List Pa} (h : RowP W base g (.slice (some ⟨gp, 0, none⟩) n cap) L) {k : Nat} {p : Pa} (hp : L[k]? = some p) : W.cell? ⟨gp, k, none⟩ = some (p.v g) := by
  have hlt : k < L.length := (List.getElem?_eq_some_iff.1 hp).1
  unfold RowP at h
  have hn : n = L.length := by
    rcases h.2 with ⟨h1, h2⟩ | ⟨_, _, _, h1, _⟩
    · simp at h1
    · simp only [Value.slice.injEq] at h1; exact h1.2.1
  subst hn
  rw [h.cellAt k (by omega)]
  simp [hp]
theorem row_len {W : World} {base g n cap : Nat} {q : Option Addr} {L : List Pa} (h : RowP W base g (.slice q n cap) L) : n = L.length := by
  rcases h.2 with ⟨h1, h2⟩ | ⟨_, _, _, h1, _⟩
  · simp only [Value.slice.injEq] at h1; omega
  · simp only [Value.slice.injEq] at h1; exact h1.2.1
theorem RowP.some {W : World} {base g n cap : Nat} {q : Option Addr} {L : List Pa} (h : RowP W base g (.slice q n cap) L) (hn : 0 < n) : ∃ gp, q = Option.some ⟨gp, 0, none⟩ ∧ base ≤ gp ∧ gp < W.heap.size := by
  rcases h.2 with ⟨h1, h2⟩ | ⟨gp, _, _, h1, h2, h3, _⟩
  · simp only [Value.slice.injEq] at h1; omega
  · simp only [Value.slice.injEq] at h1; exact ⟨gp, h1.1, h2, at_lt h3⟩
/-- a row of parts stays when another block turns -/
theorem RowP.but {W W' : World} {base g b : Nat} {v : Value} {L : List Pa} (h : RowP W base g v L) (hb : But b W W') (hlt : b < base) : RowP W' base g v L := by
  refine ⟨h.1, ?_⟩
  rcases h.2 with h0 | ⟨gp, cap, cur, h1, h2, h3, h4⟩
  · exact .inl h0
  · exact .inr ⟨gp, cap, cur, h1, h2, by rw [hb.block gp (at_lt h3) (by omega)]; exact h3, h4⟩
theorem isL_cons {L : List Pa} {k : Nat} {p : Pa} {d : Cm} (hp : L[k]? = some p) : isL (L.drop k) d = (p.is d && isL (L.drop (k + 1)) (p.clr d)) := by
  have hlt : k < L.length := (List.getElem?_eq_some_iff.1 hp).1
  have e : L[k] = p := (List.getElem?_eq_some_iff.1 hp).2
  rw [List.drop_eq_getElem_cons hlt, e]; rfl
theorem clrL_cons {L : List Pa} {k : Nat} {p : Pa} {d : Cm} (hp : L[k]? = some p) : clrL (L.drop k) d = clrL (L.drop (k + 1)) (p.clr d) := by
  have hlt : k < L.length := (List.getElem?_eq_some_iff.1 hp).1
  have e : L[k] = p := (List.getElem?_eq_some_iff.1 hp).2
  rw [List.drop_eq_getElem_cons hlt, e]; rfl
def isR (L : List Pa) (d : Cm) : Bool := isL L d && eqC (clrL L d) zC
theorem isR_no {L : List Pa} {k : Nat} {p : Pa} {d : Cm} (hp : L[k]? = some p) (h : p.is d = false) : isR (L.drop k) d = false := by
  unfold isR; rw [isL_cons hp, h]; rfl
theorem isR_yes {L : List Pa} {k : Nat} {p : Pa} {d : Cm} (hp : L[k]? = some p) (h : p.is d = true) : isR (L.drop k) d = isR (L.drop (k + 1)) (p.clr d) := by
  unfold isR; rw [isL_cons hp, clrL_cons hp, h, Bool.true_and]
theorem equal_zero {d : Cm} {q : Bool} (h : eqC d zC = q) (W : World) : (Op.equalIn 10000 57 d.v (.agg #[.int .i64 0, .int .i64 0, .int .i64 0, .int .i64 0, .int .i64 0, .int .i64 0, .int .i64 0, .string ⟨#[]⟩, .int .i64 0, .string ⟨#[]⟩, .int .i64 0, .string ⟨#[]⟩, .int .i64 0, .string ⟨#[]⟩, .int .i64 0, .string ⟨#[]⟩, .int .i64 0, .int .i64 0, .int .i64 0, .int .i64 0, .int .i64 0, .int .i64 0])).run Tryz.prog W = .ok q W := equal_cm_at h W
set_option maxHeartbeats 4000000 in
theorem cmd_is (w : World) (c : Cm) (hs : sizedC c) : Calls Tryz.prog 63 #[c.v] w fun e w' => e = .returned (.bool (isCm c)) ∧ Below w.heap.size w w' := by
  obtain ⟨W, hW⟩ : ∃ W, W = w.alloc c.o := ⟨_, rfl⟩
  have hB : Below w.heap.size w W := by rw [hW]; exact below1 _ _
  have hA := hid (show W.heap[w.heap.size]? = some c.o by rw [hW]; exact new_at _ _ _ rfl)
  have hlW : w.heap.size < W.heap.size := at_lt hA.out
  obtain ⟨R, hR⟩ : ∃ R, Hid (isCm c = R) := ⟨_, rfl⟩
  obtain ⟨L, hL⟩ : ∃ L, Hid (partsP c.kd = L) := ⟨_, rfl⟩
  have hRL : Hid (isR L c = R) := by show _ = _; rw [← hL.out, ← hR.out]; rfl
  have hok := hid (show ∀ p ∈ L, p.ok by rw [← hL.out]; exact parts_ok _)
  have hlen : L.length ≤ 9 := by rw [← hL.out]; exact parts_len _
  have HS := hid hs
  rw [hR.out]
  clear hs
  go_enter Tryz.func63, Tryz.ntmps63
  go_upto_region 1 with fail
  rw [← hW]
  clear hW
  go_wp2_with fail
  refine (cmd_parts hA.out).mono ?_
  rintro x W1 ⟨v, rfl, hp, hb1⟩
  rw [hL.out] at hp
  have hA1 := hid (var_on hb1 hA.out (at_lt hA.out))
  have hB1 := below_on hB hb1
  clear hb1 hA
  obtain ⟨q, cap, rfl⟩ := owns_slice hp
  have hp1 := hp.mono (base' := w.heap.size + 1) (by omega)
  obtain ⟨n, hn⟩ : ∃ n, Hid (L.length = n) := ⟨_, rfl⟩
  rw [hn.out] at hp1 hlen ⊢
  go_wp2_with fail
  go_loopw [7] (fun i wr => ∃ (k : Nat) (d : Cm), k ≤ n ∧ i = .int .i64 k ∧ wr.heap[w.heap.size]? = some d.o ∧ RowP wr (w.heap.size + 1) w.heap.size (.slice q n cap) L ∧ isR (L.drop k) d = R ∧ sizedC d ∧ Below w.heap.size w wr) (fun i _ => n - (intOf i).toNat)
  case atStart => exact ⟨0, c, by omega, rfl, hA1.out, hp1, hRL.out, HS.out, hB1⟩
  case round =>
    obtain ⟨k, d, hk, rfl, hd, hr, hres, hsz, hb⟩ := hrel
    have HD := hid hd
    have HZ := hid hres
    have HSd := hid hsz
    have lD := at_lt hd
    clear hd hres hsz hp1 hA1 hB1 hp
    by_cases hlt : k < n
    · have hlt' : (k : Int) < (n : Int) := by omega
      obtain ⟨gp, rfl, -⟩ := hr.some (by omega)
      obtain ⟨p, hpk⟩ : ∃ p, L[k]? = some p := ⟨L[k]'(by rw [hn.out]; exact hlt), by simp⟩
      have hpok := hok.out p (List.mem_of_getElem? hpk)
      have hc0 := part_at hr hpk
      have HP := hid hpk
      have HR := hid hr
      clear hpk hr
      rcases p with ⟨j, lo, hi⟩ | j
      · have hc : wr.cell? ⟨gp, k, none⟩ = some (.iface 145 (numV w.heap.size j lo hi)) := hc0
        clear hc0
        have hci := cell_i HD.out hpok.1
        obtain ⟨z, hz⟩ : ∃ z, Hid ((decide (lo ≤ d.i j) && decide (d.i j ≤ hi)) = z) := ⟨_, rfl⟩
        go_wp2_with fail
        refine (num_is _ hci lo hi).mono ?_
        rw [hz.out]
        rintro x w2 ⟨rfl, hb2⟩
        have hd2 := hid (var_on hb2 HD.out lD)
        have hr2 := hid (HR.out.on hb2)
        have hB2 := below_on hb hb2
        have l2 := at_lt hd2.out
        clear hb2 hb hc hci HD HR lD
        cases z
        · go_wp2_with fail
          go_ret
          exact ⟨by rw [← HZ.out, isR_no HP.out hz.out]; rfl, hB2⟩
        · go_wp2_with fail
          refine (num_clear _ hd2.out hpok.1 lo hi).mono ?_
          rintro x w3 ⟨rfl, hd3, hbut⟩
          go_wp2_with fail
          go_roundw
          case rel => exact ⟨k + 1, d.setI j 0, by omega, by go_num, hd3, hr2.out.but hbut (by omega), by rw [← HZ.out, isR_yes HP.out hz.out]; rfl, sized_clr (p := .num j lo hi) HSd.out hpok, hbut.below hB2 (Nat.le_refl _)⟩
          case measure => simp [intOf]; omega
      · have hc : wr.cell? ⟨gp, k, none⟩ = some (.iface 151 (fldV w.heap.size j)) := hc0
        clear hc0
        obtain ⟨hci, hci'⟩ := cell_f HD.out hpok
        obtain ⟨z, hz⟩ : ∃ z, Hid (isF (d.f j) = z) := ⟨_, rfl⟩
        have hsj := HSd.out j
        go_wp2_with fail
        refine (fld_is _ hci hci' hsj).mono ?_
        rw [hz.out]
        rintro x w2 ⟨rfl, hb2⟩
        have hd2 := hid (var_on hb2 HD.out lD)
        have hr2 := hid (HR.out.on hb2)
        have hB2 := below_on hb hb2
        have l2 := at_lt hd2.out
        clear hb2 hb hc hci hci' HD HR lD
        cases z
        · go_wp2_with fail
          go_ret
          exact ⟨by rw [← HZ.out, isR_no HP.out hz.out]; rfl, hB2⟩
        · go_wp2_with fail
          refine (fld_clear _ hd2.out hpok).mono ?_
          rintro x w3 ⟨rfl, hd3, hbut⟩
          go_wp2_with fail
          go_roundw
          case rel => exact ⟨k + 1, d.setF j zF, by omega, by go_num, hd3, hr2.out.but hbut (by omega), by rw [← HZ.out, isR_yes HP.out hz.out]; rfl, sized_clr (p := .fld j) HSd.out hpok, hbut.below hB2 (Nat.le_refl _)⟩
          case measure => simp [intOf]; omega
    · obtain rfl : k = n := by omega
      have hlt' : ¬ (k : Int) < (k : Int) := by omega
      have he : eqC d zC = R := by
        rw [← HZ.out, List.drop_of_length_le (by rw [hn.out]; omega)]; simp [isR, isL, clrL]
      have hQ := equal_zero he
      go_wp2_with (with_reducible refine wpList_load_cm rfl (.tmp 1) rfl rfl HD.out ?_)
      go_ret
      exact ⟨rfl, hb⟩
end
section
open Go.RowKit
set_option linter.unusedVariables false
theorem getF_canon : ∀ (l : List UInt8) (i acc N K : Nat), getF l i acc = (N, K, 0) → i ≤ 9 → ∃ m, N = acc + m * 128 ^ i ∧ i < K ∧ l.take (K - i) = putF (9 - i) m ∧ (0 < i → 0 < m)
  | [], i, acc, N, K, h, hi => by simp [getF] at h
  | b :: r, i, acc, N, K, h, hi => by
    have hb := b.toNat_lt
    simp only [getF] at h
    by_cases h1 : i = 9 ∧ 1 < b.toNat
    · rw [if_pos h1] at h; simp at h
    · rw [if_neg h1] at h
      by_cases h2 : 0 < i ∧ b.toNat = 0
      · rw [if_pos h2] at h; simp at h
      · rw [if_neg h2] at h
        by_cases h3 : b.toNat < 128
        · rw [if_pos h3] at h
          simp only [Prod.mk.injEq, and_true] at h
          obtain ⟨rfl, rfl⟩ := h
          refine ⟨b.toNat, rfl, by omega, ?_, by omega⟩
          rw [show i + 1 - i = 1 by omega, putF_last _ _ h3]
          simp [lastB]
        · rw [if_neg h3] at h
          obtain ⟨m, e1, e2, e3, e4⟩ := getF_canon r (i + 1) _ N K h (by omega)
          have hm := e4 (by omega)
          refine ⟨(b.toNat - 128) + m * 128, ?_, by omega, ?_, by omega⟩
          · rw [e1, Nat.pow_succ, Nat.add_mul, Nat.mul_assoc, Nat.mul_comm 128 (128 ^ i)]; omega
          · rw [show K - i = (K - (i + 1)) + 1 by omega, List.take_succ_cons, e3, show 9 - i = (9 - (i + 1)) + 1 by omega, putF_more _ _ (by omega)]
            congr 1
            · unfold moreB
              rw [show (b.toNat - 128 + m * 128) % 128 + 128 = b.toNat by omega]
              simp
            · rw [show (b.toNat - 128 + m * 128) / 128 = m by omega]
theorem get_canon {l : List UInt8} {n k : Nat} (h : get l = (n, k, 0)) : l.take k = put n := by
  obtain ⟨m, e1, e2, e3, e4⟩ := getF_canon l 0 0 n k h (by omega)
  have : n = m := by simpa using e1
  subst this
  simpa [put] using e3
theorem texts_canon {l u : List UInt8} {k : Nat} (h : texts l 12 = (u, k, 0)) : l.take k = text u := by
  rcases hg : get l with ⟨n, i, x⟩
  obtain ⟨h1, h2, h3, h4, h5⟩ := get_ok hg
  unfold texts at h
  rw [hg] at h
  simp only at h
  split at h
  · simp_all
  · split at h
    · simp at h
    · split at h
      · simp at h
      · have hx : x = 0 := by simp_all
        subst hx
        simp only [Prod.mk.injEq, and_true] at h
        obtain ⟨rfl, rfl⟩ := h
        unfold text
        rw [List.take_add, get_canon hg]
        congr 2
        simp only [List.length_take, List.length_drop]
        omega
end
section
open Go.RowKit
set_option linter.unusedVariables false
theorem isL_all (kd : Int) (c : Cm) : isL (partsP kd) c = (partsP kd).all (Pa.is c) := by
  obtain ⟨a0, a1, a2, a3, a4, a5, a6, a7, a8, a9, a10, a11, a12, a13, a14, a15, a16⟩ := c
  unfold partsP
  refine rest_cases (P := fun l => isL (headP ++ l) _ = (headP ++ l).all (Pa.is _)) ?_ ?_ ?_ ?_ ?_ ?_ ?_ kd <;> rfl
def Pa.put (c d : Cm) : Pa → Cm
  | Sum.inl (k, _, _) => d.setI k (c.i k)
  | Sum.inr k => d.setF k (c.f k)
def putL (c : Cm) : List Pa → Cm → Cm
  | [], d => d
  | p :: l, d => putL c l (p.put c d)
theorem put_back (kd : Int) (c : Cm) (h : clrL (partsP kd) c = zC) : putL c (partsP kd) zC = c := by
  obtain ⟨a0, a1, a2, a3, a4, a5, a6, a7, a8, a9, a10, a11, a12, a13, a14, a15, a16⟩ := c
  revert h
  unfold partsP
  refine rest_cases (P := fun l => clrL (headP ++ l) _ = zC → putL _ (headP ++ l) zC = _) ?_ ?_ ?_ ?_ ?_ ?_ ?_ kd
  all_goals
    intro h
    simp only [headP, List.cons_append, List.nil_append, clrL, Pa.clr, Cm.setI, Cm.setF, zC, Cm.mk.injEq] at h
    simp_all [headP, putL, Pa.put, Cm.setI, Cm.setF, Cm.i, Cm.f, zC]
theorem isC_iff {c : Cm} : isCm c = true ↔ (∀ p ∈ partsP c.kd, p.is c = true) ∧ clrL (partsP c.kd) c = zC := by
  unfold isCm
  rw [isL_all, Bool.and_eq_true, List.all_eq_true, eqC_iff]
theorem is_num {c : Cm} {k : Nat} {lo hi : Int} : (Pa.num k lo hi).is c = true ↔ lo ≤ c.i k ∧ c.i k ≤ hi := by
  show (decide (lo ≤ c.i k) && decide (c.i k ≤ hi)) = true ↔ _
  simp
theorem told_short {c : Cm} {p : Pa} (h : p.is c = true) : (p.told c).length ≤ 32 := by
  rcases p with ⟨k, lo, hi⟩ | k
  · have := (put_length (zig (c.i k))).2; show (put (zig (c.i k))).length ≤ 32; omega
  · have h2 : isF (c.f k) = true := h
    unfold isF at h2
    simp only [Bool.and_eq_true, decide_eq_true_eq] at h2
    have h3 := h2.2
    have h1 := (put_length (c.f k).s.data.toList.length).2
    have h4 := (put_length (zig (c.f k).n)).2
    have h5 : (c.f k).s.data.toList.length ≤ 12 := h3
    show (text _ ++ _).length ≤ 32
    unfold text
    simp only [List.length_append]
    omega
theorem toldL_len (c : Cm) : ∀ (L : List Pa), (∀ p ∈ L, p.is c = true) → (toldL L c).length ≤ 32 * L.length
  | [], _ => by simp [toldL]
  | p :: l, h => by
    have h1 := told_short (h p (by simp))
    have h2 := toldL_len c l (fun q hq => h q (by simp [hq]))
    have e : toldL (p :: l) c = p.told c ++ toldL l c := rfl
    rw [e, List.length_append, List.length_cons]
    omega
end
end Go.Proofs.YtpedngbjpbeanaaGreatDoor
