/- Contracts of the reference's things, handed; plain: rows that rise, who is a note, part by part. -/
import Derived.Test.YtpedngbjpbeanaaGreatDoorNtD
import Derived.BigQuiet
namespace Go.Proofs.YtpedngbjpbeanaaGreatDoor
open Go.RowKit
set_option linter.unusedVariables false
theorem okT_at {L : List Th} {k : Nat} {t : Th} (h : L[k]? = some t) : okT L k = (isT t && (decide (k = 0) || decide ((L.getD (k - 1) zT).id < t.id))) := by unfold okT; rw [getD_of h]
set_option maxRecDepth 100000 in
set_option maxHeartbeats 4000000 in
theorem ref_things17 (w : World) (p : Option Addr) (cap n : Nat) (L : List Th) (q : Bool) (hq0 : Hid ((good L && decide (n ≤ 200)) = q)) (hn : Hid (L.length = n)) (hr : RowT w p L) (hi : ∀ t ∈ L, inT t) (hm : n ≤ maxLen) :
    Calls Tryz.prog 21 #[.slice p n cap] w fun e w' => e = .returned (.bool q) ∧ Below w.heap.size w w' := by
  have hm' : n ≤ 9223372036854775807 := by unfold maxLen at hm; omega
  have HR := hid hr
  obtain ⟨g, hq⟩ : ∃ g, Hid (good L = g) := ⟨_, rfl⟩
  have hq2 := hq0.out
  rw [hq.out] at hq2
  have HQ := hid hq2
  clear hr hm hq0 hq2
  go_enter Tryz.func21, Tryz.ntmps21
  go_wp2_with fail
  go_loopw [3] (fun i wr => ∃ k : Nat, k ≤ n ∧ i = .int .i64 k ∧ Hid (∀ j, j < k → okT L j = true) ∧ Below w.heap.size w wr) (fun i _ => n - (intOf i).toNat)
  case atStart => exact ⟨0, by omega, rfl, hid (fun j hj => by omega), Below.refl _ _⟩
  case round =>
    obtain ⟨k, hk, rfl, HO, hb⟩ := hrel
    by_cases hlt : k < n
    · have hlt' : (k : Int) < (n : Int) := by omega
      obtain ⟨t, ht⟩ := get_th L k (by rw [hn.out]; exact hlt)
      obtain ⟨b, off, rfl, hc⟩ := (HR.out.later hb).at ht
      have HT := hid ht
      have hit := hi t (List.mem_of_getElem? ht)
      clear ht
      obtain ⟨r, hr⟩ : ∃ r, Hid (isT t = r) := ⟨_, rfl⟩
      have IS := fun w => refT_at hr w hit
      have hfin : ∀ d os, Hid (Below w.heap.size w (Sort.grow (redrawn wr d) os)) := fun d os => below_on hb (below_regrown wr d os)
      have hcr : ∀ d os, cellsT (Sort.grow (redrawn wr d) os) b (off + k * 11) t := fun d os => cellsT_later hc (below_regrown wr d os)
      cases r
      · have e := hid ((good_no (by rw [hn.out]; exact hlt) (by rw [okT_at HT.out, hr.out]; rfl)).symm.trans hq.out)
        clear hc hb
        go_upto_region 4 with fail
        refine wp_region_quiet_below (by kernel_rfl) (by kernel_rfl) ?_
        repeat (first | go_big_quiet_skip | (go_big_quiet_want; go_big_quiet_op; first | go_big_quiet_on | go_big_quiet_call (exact Calls.regrown_of (IS _))))
        refine wpQuiet_nil ?_
        intro _ hw'
        obtain ⟨⟨dq, osq⟩, hw''⟩ := hw'
        subst hw''
        have hB := hfin dq osq
        obtain ⟨W8, hW8⟩ : ∃ W8, Sort.grow (redrawn wr dq) osq = W8 := ⟨_, rfl⟩
        rw [hW8] at hB ⊢
        clear hW8 hcr hfin
        go_wp2_with fail
        go_ret
        exact ⟨ret_bool (by rw [← HQ.out, ← e.out]; rfl), hB.out⟩
      · by_cases h0 : k = 0
        · subst h0
          have hok : okT L 0 = true := by rw [okT_at HT.out, hr.out]; rfl
          have e := hid (show ∀ j, j < 0 + 1 → okT L j = true from fun j hj => by
            obtain rfl : j = 0 := by omega
            exact hok)
          have hcr0 : ∀ d os, cellsT (Sort.grow (redrawn wr d) os) b off t := fun d os => by
            have := hcr d os
            rwa [Nat.zero_mul, Nat.add_zero] at this
          clear hc hb hok hcr
          go_upto_region 4 with fail
          refine wp_region_quiet_below (by kernel_rfl) (by kernel_rfl) ?_
          repeat (first | go_big_quiet_skip | (go_big_quiet_want; go_big_quiet_op; first | go_big_quiet_on | go_big_quiet_call (exact Calls.regrown_of (IS _))))
          refine wpQuiet_nil ?_
          intro _ hw'
          obtain ⟨⟨dq, osq⟩, hw''⟩ := hw'
          subst hw''
          have hB := hfin dq osq
          obtain ⟨W8, hW8⟩ : ∃ W8, Sort.grow (redrawn wr dq) osq = W8 := ⟨_, rfl⟩
          rw [hW8] at hB ⊢
          clear hW8 hcr0 hfin
          go_wp2_with fail
          go_roundw
          case rel => exact ⟨1, by omega, by first | rfl | go_num, e, hB.out⟩
          case measure => simp [intOf]; omega
        · obtain ⟨m, rfl⟩ : ∃ m, k = m + 1 := ⟨k - 1, by omega⟩
          obtain ⟨u, hu⟩ := get_th L m (by rw [hn.out]; omega)
          obtain ⟨b2, off2, e2, hc2⟩ := (HR.out.later hb).at hu
          simp only [Option.some.injEq, Addr.mk.injEq, and_true] at e2
          obtain ⟨rfl, rfl⟩ := e2
          have hcr2 : ∀ d os, (Sort.grow (redrawn wr d) os).cell? ⟨b, off + m * 11, none⟩ = some (.int .i64 u.id) := fun d os => (cellsT_later hc2 (below_regrown wr d os)).1
          have hpos : (0 : Int) < (m : Int) + 1 := by omega
          have hm1 : (m : Int) + 1 - 1 = (m : Int) := by omega
          have hmn : (m : Int) < (n : Int) := by omega
          obtain ⟨z, hz⟩ : ∃ z, decide (t.id ≤ u.id) = z := ⟨_, rfl⟩
          have hok : okT L (m + 1) = !z := by
            rw [okT_at HT.out, hr.out, show m + 1 - 1 = m by omega, getD_of hu, ← hz]
            by_cases h : t.id ≤ u.id
            · have h' : ¬ u.id < t.id := by omega
              simp [h, h']
            · have h' : u.id < t.id := by omega
              simp [h, h']
          have HOK := hid hok
          clear hc hb hc2 hok hu h0
          go_upto_region 4 with fail
          refine wp_region_quiet_below (by kernel_rfl) (by kernel_rfl) ?_
          repeat (first | go_big_quiet_skip | (go_big_quiet_want; go_big_quiet_op; first | go_big_quiet_on | go_big_quiet_call (exact Calls.regrown_of (IS _))))
          refine wpQuiet_nil ?_
          intro _ hw'
          obtain ⟨⟨dq, osq⟩, hw''⟩ := hw'
          subst hw''
          have hB := hfin dq osq
          obtain ⟨W8, hW8⟩ : ∃ W8, Sort.grow (redrawn wr dq) osq = W8 := ⟨_, rfl⟩
          rw [hW8] at hB ⊢
          clear hW8 hcr hcr2 hfin
          cases z
          · have e := hid (show ∀ j, j < m + 1 + 1 → okT L j = true from fun j hj => by
              by_cases e : j = m + 1
              · subst e; exact HOK.out
              · exact HO.out j (by omega))
            go_wp2_with fail
            go_roundw
            case rel => exact ⟨m + 2, by omega, by go_num, e, hB.out⟩
            case measure => simp [intOf]; omega
          · have e := hid ((good_no (by rw [hn.out]; exact hlt) HOK.out).symm.trans hq.out)
            go_wp2_with fail
            go_ret
            exact ⟨ret_bool (by rw [← HQ.out, ← e.out]; rfl), hB.out⟩
    · obtain rfl : k = n := by omega
      have hlt' : ¬ (k : Int) < (k : Int) := by omega
      have e := hid ((good_yes (fun j hj => HO.out j (by rw [← hn.out]; exact hj))).symm.trans hq.out)
      by_cases h2 : k ≤ 200
      · have d2 : decide ((k : Int) ≤ 200) = true := by simp; omega
        have HE := hid (show true = q by rw [← HQ.out, ← e.out]; simp [h2])
        clear h2
        go_wp2_with fail
        go_ret
        exact ⟨ret_bool HE.out, hb⟩
      · have d2 : decide ((k : Int) ≤ 200) = false := by simp; omega
        have HE := hid (show false = q by rw [← HQ.out, ← e.out]; simp [h2])
        clear h2
        go_wp2_with fail
        go_ret
        exact ⟨ret_bool HE.out, hb⟩
set_option maxRecDepth 100000 in
theorem ref_handed17 {w : World} {p : Option Addr} {cap n : Nat} {L : List Hd} {c : Nat} {q : Bool} (h : Hid (leftB L c = q)) (hn : Hid (L.length = n)) (hr : RowG Hd.cs 2 w p L) (hm : n ≤ maxLen) :
    Calls Tryz.prog 26 #[.slice p n cap, .int .i64 c] w fun e w' => e = .returned (.bool q) ∧ Below w.heap.size w w' := by
  have hm' : n ≤ 9223372036854775807 := by unfold maxLen at hm; omega
  have HR := hid hr
  clear hr hm
  go_enter Tryz.func26, Tryz.ntmps26
  go_wp2_with fail
  go_loopw [5] (fun i wr => ∃ k : Nat, k ≤ n ∧ i = .int .i64 k ∧ Hid (leftB (L.drop k) c = q) ∧ Below w.heap.size w wr) (fun i _ => n - (intOf i).toNat)
  case atStart => exact ⟨0, by omega, rfl, hid (by rw [List.drop_zero]; exact h.out), Below.refl _ _⟩
  case round =>
    obtain ⟨k, hk, rfl, HO, hb⟩ := hrel
    by_cases hlt : k < n
    · have hlt' : (k : Int) < (n : Int) := by omega
      obtain ⟨t, ht⟩ := get_some L k (by rw [hn.out]; exact hlt)
      obtain ⟨b, off, rfl, hc⟩ := (HR.out.later hb).at ht
      have c0 := hc 0 _ rfl
      rw [Nat.add_zero] at c0
      have hd : L.drop k = t :: L.drop (k + 1) := by
        rw [List.drop_eq_getElem_cons (by rw [hn.out]; exact hlt)]
        rw [(List.getElem?_eq_some_iff.1 ht).2]
      have hl := HO.out
      rw [hd] at hl
      have hl : (t.c == (c : Int) || leftB (L.drop (k + 1)) c) = q := hl
      clear hc ht hd
      by_cases e : t.c = (c : Int)
      · have e1 : (t.c == (c : Int)) = true := by simpa using e
        rw [e1, Bool.true_or] at hl
        subst hl
        clear e
        go_wp2_with fail
        go_ret
        exact ⟨rfl, hb⟩
      · have e1 : (t.c == (c : Int)) = false := by simpa using e
        rw [e1, Bool.false_or] at hl
        have HL := hid hl
        clear hl e
        go_wp2_with fail
        go_roundw
        case rel => exact ⟨k + 1, by omega, by go_num, HL, hb⟩
        case measure => simp [intOf]; omega
    · obtain rfl : k = n := by omega
      have hlt' : ¬ (k : Int) < (k : Int) := by omega
      have hl := HO.out
      rw [List.drop_of_length_le (by rw [hn.out]; omega)] at hl
      have hl : false = q := hl
      subst hl
      go_wp2_with fail
      go_ret
      exact ⟨rfl, hb⟩
/- chains -/
def prevK {α : Type} (z : α) (key : α → Int) (L : List α) (last : Int) (k : Nat) : Int := if k = 0 then last else key (L.getD (k - 1) z)
theorem chain_iff {α : Type} (z : α) (g : Int → α → Bool) (key : α → Int) (R : Int → List α → Bool) (h0 : ∀ last, R last [] = true) (h1 : ∀ last a l, R last (a :: l) = (g last a && R (key a) l)) :
    ∀ (L : List α) (last : Int), R last L = true ↔ ∀ k a, L[k]? = some a → g (prevK z key L last k) a = true
  | [], last => by simp [h0]
  | b :: l, last => by
    rw [h1, Bool.and_eq_true, chain_iff z g key R h0 h1 l (key b)]
    constructor
    · rintro ⟨hb, hl⟩ k a hk
      cases k with
      | zero => cases hk; exact hb
      | succ k =>
        have := hl k a (by simpa using hk)
        have e : prevK z key (b :: l) last (k + 1) = prevK z key l (key b) k := by
          unfold prevK
          rw [if_neg (by omega), Nat.add_sub_cancel]
          cases k with
          | zero => rw [if_pos rfl]; rfl
          | succ k => rw [if_neg (by omega), Nat.add_sub_cancel]; rfl
        rw [e]; exact this
    · intro h
      refine ⟨h 0 b rfl, fun k a hk => ?_⟩
      have := h (k + 1) a (by simpa using hk)
      have e : prevK z key (b :: l) last (k + 1) = prevK z key l (key b) k := by
        unfold prevK
        rw [if_neg (by omega), Nat.add_sub_cancel]
        cases k with
        | zero => rw [if_pos rfl]; rfl
        | succ k => rw [if_neg (by omega), Nat.add_sub_cancel]; rfl
      rw [← e]; exact this
theorem hands_iff {fr kk : Int} {L : List Hd} : handsR fr kk (-1) L = true ↔ ∀ k a, L[k]? = some a → handG fr kk (prevK zH (·.c) L (-1) k) a = true :=
  chain_iff zH (handG fr kk) (·.c) (handsR fr kk) (fun _ => rfl) (fun _ _ _ => rfl) L (-1)
theorem stand_iff {f : Nat → Bool} {all : Bool} {L : List Th} : standR f all (-1) L = true ↔ ∀ k a, L[k]? = some a → standG f all (prevK zT (·.id) L (-1) k) a = true :=
  chain_iff zT (standG f all) (·.id) (standR f all) (fun _ => rfl) (fun _ _ _ => rfl) L (-1)
theorem stand_good {f : Nat → Bool} {all : Bool} {L : List Th} : standR f all (-1) L = true ↔ good L = true ∧ ∀ t ∈ L, f (ofN t.x t.y) = all := by
  rw [stand_iff]
  constructor
  · intro h
    refine ⟨good_yes fun k hk => ?_, fun t ht => ?_⟩
    · have hk1 := List.getElem?_eq_getElem hk
      have := h k _ hk1
      unfold standG prevK at this
      simp only [Bool.and_eq_true, decide_eq_true_eq] at this
      rw [okT_at hk1, this.1.2, Bool.true_and, Bool.or_eq_true, decide_eq_true_eq, decide_eq_true_eq]
      by_cases h0 : k = 0
      · exact .inl h0
      · right
        have h2 := this.2
        rw [if_neg h0] at h2
        exact h2
    · obtain ⟨k, hk, rfl⟩ := List.getElem_of_mem ht
      have := h k _ (List.getElem?_eq_getElem hk)
      unfold standG at this
      simp only [Bool.and_eq_true, beq_iff_eq] at this
      exact this.1.1
  · rintro ⟨hg, hc⟩ k a hk
    have hlt := (List.getElem?_eq_some_iff.1 hk).1
    have h1 : okT L k = true := by
      unfold good at hg
      rw [List.all_eq_true] at hg
      exact hg k (List.mem_range.2 hlt)
    rw [okT_at hk, Bool.and_eq_true, Bool.or_eq_true, decide_eq_true_eq, decide_eq_true_eq] at h1
    unfold standG prevK
    rw [hc a (List.mem_of_getElem? hk), h1.1]
    simp only [beq_self_eq_true, Bool.true_and, decide_eq_true_eq]
    by_cases h0 : k = 0
    · rw [if_pos h0]
      have := (isT_small h1.1).1
      omega
    · rw [if_neg h0]
      rcases h1.2 with h2 | h2
      · exact absurd h2 h0
      · exact h2
/-- who is a note, as the reference asks it -/
structure RefN (n : Nt) (kk : Int) : Prop where
  fr : 0 ≤ n.fr ∧ n.fr < kk
  be : 0 ≤ n.be ∧ n.be ≤ 1073741824
  mo : (good n.mo && decide (n.mo.length ≤ 200)) = true
  gi : (good n.gi && decide (n.gi.length ≤ 200)) = true
  nh : n.ha.length ≤ 16
  nw : n.wa.length ≤ 20
  ha : ∀ k a, n.ha[k]? = some a → handG n.fr kk (prevK zH (·.c) n.ha (-1) k) a = true
  wa : ∀ c ∈ n.wa, goodC c = true
  sg : ∀ t ∈ n.gi, leftB n.ha (ofN t.x t.y) = true
  sm : ∀ t ∈ n.mo, leftB n.ha (ofN t.x t.y) = false
theorem refN_iff {n : Nt} {k kk : Int} (hk : min k 4 = kk) : isN n k = true ↔ RefN n kk := by
  unfold isN
  rw [hk]
  simp only [Bool.and_eq_true]
  constructor
  · rintro ⟨h1, h2, h3, h4, h5, h6⟩
    unfold belB at h2 h3
    unfold standB at h4 h5
    unfold watB at h6
    simp only [Bool.and_eq_true, decide_eq_true_eq, List.all_eq_true] at h2 h3 h4 h5 h6
    have hl := handsR_len n.ha (-1) h1 (by omega) (by omega)
    have g4 := stand_good.1 h4.2
    have g5 := stand_good.1 h5.2
    exact ⟨h2, by omega, by rw [g4.1]; simpa using h4.1, by rw [g5.1]; simpa using h5.1, by omega, h6.1, hands_iff.1 h1, h6.2, g5.2, g4.2⟩
  · rintro ⟨a, b, c, d, e, f, g, h, i, j⟩
    simp only [Bool.and_eq_true, decide_eq_true_eq] at c d
    refine ⟨hands_iff.2 g, ?_, ?_, ?_, ?_, ?_⟩
    · unfold belB; simp only [Bool.and_eq_true, decide_eq_true_eq]; exact a
    · unfold belB; simp only [Bool.and_eq_true, decide_eq_true_eq]; omega
    · unfold standB; simp only [Bool.and_eq_true, decide_eq_true_eq]; exact ⟨c.2, stand_good.2 ⟨c.1, j⟩⟩
    · unfold standB; simp only [Bool.and_eq_true, decide_eq_true_eq]; exact ⟨d.2, stand_good.2 ⟨d.1, i⟩⟩
    · unfold watB; simp only [Bool.and_eq_true, decide_eq_true_eq, List.all_eq_true]; exact ⟨f, h⟩
end Go.Proofs.YtpedngbjpbeanaaGreatDoor
