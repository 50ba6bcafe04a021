/- Contract of the document's tree over this translation: Put. It returns what the plain functions say; nothing else that was there is changed. -/
import Derived.Test.YtihmpdjlfpbieaaDoorQdS
namespace Go.Proofs.YtihmpdjlfpbieaaDoor
open Go.RowKit
set_option linter.unusedVariables false
def rptE (id x y : Int) (S : List Mk) : Int := if id < 0 then 11 else if onB x y = false then 14 else if 0 ≤ rfI id S then 11 else if 200 ≤ S.length then 16 else 0
/-- how many stand ahead of id -/
def ahead (id : Int) (S : List Mk) : Nat := (S.takeWhile fun s => decide (s.id < id)).length
def rptS (id x y : Int) (S : List Mk) : List Mk := if rptE id x y S = 0 then insS S (ahead id S) ⟨id, x, y⟩ else S
theorem ahead_eq {id : Int} {S : List Mk} {k : Nat} (hk : k ≤ S.length) (h1 : ∀ j a, j < k → S[j]? = some a → a.id < id) (h2 : ∀ a, S[k]? = some a → ¬ a.id < id) : ahead id S = k := by
  induction S generalizing k with
  | nil => simp [ahead] at hk ⊢; exact hk.symm
  | cons a l ih =>
    cases k with
    | zero =>
      have := h2 a rfl
      simp [ahead, this]
    | succ k =>
      have h0 : a.id < id := h1 0 a (by omega) rfl
      have := ih (k := k) (by simpa using hk) (fun j b hj hb => h1 (j + 1) b (by omega) (by simpa using hb)) (fun b hb => h2 b (by simpa using hb))
      unfold ahead at this ⊢
      rw [List.takeWhile_cons, if_pos (by simpa using h0), List.length_cons, this]
theorem set3_flat (m : Mk) : ∀ (S : List Mk) (k : Nat), k < S.length → flatG Mk.cs (S.set k m) = (((flatG Mk.cs S).set (k * 3) (.int .i64 m.id)).set (k * 3 + 1) (.int .i64 m.x)).set (k * 3 + 2) (.int .i64 m.y)
  | [], k, h => by simp at h
  | a :: l, 0, h => by simp [flatG, Mk.cs]
  | a :: l, k + 1, h => by
    have ih := set3_flat m l k (by simpa using h)
    have e1 : flatG Mk.cs (a :: l) = .int .i64 a.id :: .int .i64 a.x :: .int .i64 a.y :: flatG Mk.cs l := rfl
    have e2 : flatG Mk.cs ((a :: l).set (k + 1) m) = .int .i64 a.id :: .int .i64 a.x :: .int .i64 a.y :: flatG Mk.cs (l.set k m) := rfl
    rw [e1, e2, ih, show (k + 1) * 3 = k * 3 + 3 by omega, show k * 3 + 3 + 1 = k * 3 + 1 + 3 by omega, show k * 3 + 3 + 2 = k * 3 + 2 + 3 by omega]
    simp only [List.set_cons_succ]
theorem insS_step {α : Type} {S : List α} {j : Nat} {a x : α} (h : S[j]? = some a) : (insS S (j + 1) x).set (j + 1) a = insS S j a := by
  have hj : j < S.length := (List.getElem?_eq_some_iff.1 h).1
  have e : S[j] = a := (List.getElem?_eq_some_iff.1 h).2
  unfold insS
  have l1 : (S.take (j + 1)).length = j + 1 := by rw [List.length_take]; omega
  rw [List.set_append_right _ _ (by omega), l1, Nat.sub_self, List.set_cons_zero, List.take_add_one, h, List.drop_eq_getElem_cons hj, e]
  simp
theorem insS_set {α : Type} {S : List α} {j : Nat} (hj : j ≤ S.length) (a x : α) : (insS S j x).set j a = insS S j a := by
  unfold insS
  have l1 : (S.take j).length = j := by rw [List.length_take]; omega
  rw [List.set_append_right _ _ (by omega), l1, Nat.sub_self, List.set_cons_zero]
theorem insS_get {α : Type} {S : List α} {j : Nat} {a x : α} (h : S[j]? = some a) : (insS S (j + 1) x)[j]? = some a := by
  unfold insS
  have hj : j < S.length := (List.getElem?_eq_some_iff.1 h).1
  rw [List.getElem?_append_left (by rw [List.length_take]; omega), List.getElem?_take, if_pos (by omega)]
  exact h
theorem own_set3 {W : World} {base g n cap k : Nat} {S : List Mk} (h : W.ownsRow base 66 3 (.slice (some ⟨g, 0, none⟩) n cap) n (flatG Mk.cs S)) (hk : k < S.length) (m : Mk) :
    (((W.setCell ⟨g, k * 3, none⟩ (.int .i64 m.id)).setCell ⟨g, k * 3 + 1, none⟩ (.int .i64 m.x)).setCell ⟨g, k * 3 + 2, none⟩ (.int .i64 m.y)).ownsRow base 66 3 (.slice (some ⟨g, 0, none⟩) n cap) n (flatG Mk.cs (S.set k m)) := by
  rw [set3_flat m S k hk]
  exact (((h.stored (k * 3) _).1.stored (k * 3 + 1) _).1.stored (k * 3 + 2) _).1
theorem off_set3 (W : World) (g k : Nat) (u0 u1 u2 : Value) : Off [g] W (((W.setCell ⟨g, k, none⟩ u0).setCell ⟨g, k + 1, none⟩ u1).setCell ⟨g, k + 2, none⟩ u2) :=
  ((Off.setCell W g k u0).trans (Off.setCell _ g _ _) (fun y hy => .inl hy)).trans (Off.setCell _ g _ _) (fun y hy => .inl hy)
theorem own_three {W : World} {base g n cap k : Nat} {S : List Mk} (h : W.ownsRow base 66 3 (.slice (some ⟨g, 0, none⟩) n cap) n (flatG Mk.cs S)) (hk : k < S.length) : ∃ m, S[k]? = some m ∧ cells3 W g (k * 3) (.int .i64 m.id) (.int .i64 m.x) (.int .i64 m.y) := by
  obtain ⟨m, hm⟩ := get_some S k hk
  refine ⟨m, hm, ?_⟩
  have hr := owns_read h
  have := flatG_get Mk.z S k m hm
  exact ⟨hr _ _ ((this 0 (by decide)).trans rfl), hr _ _ ((this 1 (by decide)).trans rfl), hr _ _ ((this 2 (by decide)).trans rfl)⟩
theorem rfind_at {w : World} {base tb : Nat} {v : Value} {S : List Mk} (h : RT w base tb v S) {id R : Int} (hR : Hid (rfI id S = R)) : Hid (Calls Tryd.prog 31 #[.pointer (some ⟨tb, 0, none⟩), .int .i64 id] w fun e w' => e = .returned (.int .i64 R) ∧ w' = w) := ref_find h hR
set_option maxHeartbeats 4000000 in
set_option maxRecDepth 100000 in
theorem ref_put {w : World} {base tb : Nat} {v : Value} {S : List Mk} (h : RT w base tb v S) (hl : S.length ≤ 999) (hbase : base ≤ w.heap.size) (id x y : Int) :
    Calls Tryd.prog 11 #[.pointer (some ⟨tb, 0, none⟩), .int .i64 id, pt x y] w fun e w' => e = .returned (.int .i64 (rptE id x y S)) ∧ RTurned w base tb v (rptS id x y S) w' := by
  obtain ⟨W0, hW0⟩ : ∃ W0, W0 = w.alloc (.cells #[.int .i64 x, .int .i64 y] 31) := ⟨_, rfl⟩
  have hB0 : Below w.heap.size w W0 := by rw [hW0]; exact below1 _ _
  have hP := hid (show W0.heap[w.heap.size]? = some (.cells #[.int .i64 x, .int .i64 y] 31 (0, 0)) by rw [hW0]; exact new_at _ _ _ rfl)
  have hlt0 : w.heap.size < W0.heap.size := lt_of_at hP.out
  have HT := hid (h.later hB0)
  have HT0 := hid h
  clear h
  by_cases h1 : id < 0
  · have he : rptE id x y S = 11 := by simp [rptE, h1]
    have hs : rptS id x y S = S := by simp [rptS, he]
    rw [he, hs]
    clear he hs
    go_enter Tryd.func11, Tryd.ntmps11
    go_wp2
    go_ret
    rw [← hW0]
    exact ⟨rfl, RTurned.kept HT0.out hB0⟩
  by_cases h2 : onB x y = false
  · have he : rptE id x y S = 14 := by simp [rptE, h1, h2]
    have hs : rptS id x y S = S := by simp [rptS, he]
    rw [he, hs]
    have C := ron_at (hid h2) W0
    clear he hs h2
    have hp := cells_at hP.out
    go_enter Tryd.func11, Tryd.ntmps11
    go_wp2_with fail
    rw [← hW0]
    clear hW0
    refine C.mono ?_
    rintro z W1 ⟨rfl, hb1⟩
    go_wp2
    go_ret
    exact ⟨rfl, RTurned.kept HT0.out (below_on hB0 hb1)⟩
  have h2' : onB x y = true := by simpa using h2
  have C := ron_at (hid h2') W0
  obtain ⟨r, hr⟩ : ∃ r, Hid (rfI id S = r) := ⟨_, rfl⟩
  obtain ⟨n, hn⟩ : ∃ n, Hid (S.length = n) := ⟨_, rfl⟩
  have hl' : n ≤ 999 := by rw [← hn.out]; exact hl
  by_cases h3 : 0 ≤ r
  · have he : rptE id x y S = 11 := by simp [rptE, h1, h2', hr.out, h3]
    have hs : rptS id x y S = S := by simp [rptS, he]
    rw [he, hs]
    clear he hs h2 h2'
    have hp := cells_at hP.out
    go_enter Tryd.func11, Tryd.ntmps11
    go_wp2_with fail
    rw [← hW0]
    clear hW0
    refine C.mono ?_
    rintro z W1 ⟨rfl, hb1⟩
    clear hp
    have C2 := ref_find (HT.out.later hb1) hr
    go_wp2_with fail
    refine C2.mono ?_
    rintro z W2 ⟨rfl, hw2⟩
    rw [hw2]
    clear hw2
    go_wp2
    go_ret
    exact ⟨rfl, RTurned.kept HT0.out (below_on hB0 hb1)⟩
  by_cases h4 : 200 ≤ n
  · have he : rptE id x y S = 16 := by simp [rptE, h1, h2', hr.out, h3, hn.out, h4]
    have hs : rptS id x y S = S := by simp [rptS, he]
    rw [he, hs]
    clear he hs h2 h2'
    have hp := cells_at hP.out
    have h4' : (200 : Int) ≤ (n : Int) := by omega
    obtain ⟨p, cap, rfl, hrow, hcap, hmax⟩ := HT.out.row
    go_enter Tryd.func11, Tryd.ntmps11
    go_wp2_with fail
    rw [← hW0]
    clear hW0
    refine C.mono ?_
    rintro z W1 ⟨rfl, hb1⟩
    clear hp
    have C2 := ref_find (HT.out.later hb1) hr
    have hc := cells_at (HT.out.later hb1).at_
    rw [hn.out] at hc
    go_wp2_with fail
    refine C2.mono ?_
    rintro z W2 ⟨rfl, hw2⟩
    rw [hw2]
    clear hw2
    go_wp2
    go_ret
    exact ⟨rfl, RTurned.kept HT0.out (below_on hB0 hb1)⟩
  have he : rptE id x y S = 0 := by simp [rptE, h1, h2', hr.out, h3, hn.out, h4]
  have hs : rptS id x y S = insS S (ahead id S) ⟨id, x, y⟩ := by simp [rptS, he]
  rw [he, hs]
  clear he hs h2 h2'
  have hp := cells_at hP.out
  have h4' : ¬ (200 : Int) ≤ (n : Int) := by omega
  obtain ⟨p, cap, rfl, hrow, hcap, hmax⟩ := HT.out.row
  have hmax' : cap ≤ 9223372036854775807 := hmax
  rw [hn.out] at HT HT0 hcap ⊢
  go_enter Tryd.func11, Tryd.ntmps11
  go_wp2_with fail
  rw [← hW0]
  clear hW0
  refine C.mono ?_
  rintro z W1 ⟨rfl, hb1⟩
  clear hp C
  have C2 := ref_find (v := .slice p n cap) (by have := HT.out.later hb1; rw [← hn.out] at this ⊢; exact this) hr
  have hT1 := HT.out.later hb1
  have HN1 := hid hT1.ne
  have HLO := hid hT1.lo
  have hc := cells_at hT1.at_
  have HROW := hid (hrow.later hb1)
  have hP1 := hid (var_on hb1 hP.out hlt0)
  have hB1 := below_on hB0 hb1
  clear hP HT hb1 hrow hB0
  go_wp2_with fail
  refine C2.mono ?_
  rintro z W2 ⟨rfl, hw2⟩
  rw [hw2]
  clear hw2 C2
  go_wp2_with fail
  go_loopw [7] (fun i wr => ∃ k : Nat, k ≤ n ∧ i = .int .i64 k ∧ (∀ j a, j < k → S[j]? = some a → a.id < id) ∧ wr = W1) (fun i _ => n - (intOf i).toNat)
  case atStart => exact ⟨0, by omega, rfl, fun j t hj => by omega, rfl⟩
  case round =>
    obtain ⟨k, hk, rfl, hok, hw⟩ := hrel
    rw [hw]
    have HO := hid hok
    clear hok hw
    by_cases hgo : k < n ∧ ∃ t, S[k]? = some t ∧ t.id < id
    · obtain ⟨hlt, t, ht, hti⟩ := hgo
      have hlt' : (k : Int) < (n : Int) := by omega
      obtain ⟨b, off, rfl, hc1, hc2, hc3⟩ := mark_at HROW.out ht
      have HT := hid ht
      clear ht
      go_wp2_with fail
      go_roundw
      case rel =>
        refine ⟨k + 1, by omega, by go_num, fun j u hj hu => ?_, by first | rfl | trivial⟩
        by_cases e : j = k
        · subst e
          have := Option.some.inj (HT.out.symm.trans hu)
          subst this
          exact hti
        · exact HO.out j u (by omega) hu
      case measure => simp [intOf]; omega
    · have hah : Hid (ahead id S = k) := ahead_eq (by rw [hn.out]; exact hk) HO.out (fun a ha hlt => hgo ⟨by rw [← hn.out]; exact (List.getElem?_eq_some_iff.1 ha).1, a, ha, hlt⟩)
      obtain ⟨i0, hi0, hz0, hz1, hz2⟩ := info_parts3 Tryd.info66
      have OW := hid hT1.own
      rw [hn.out] at OW
      by_cases hlt : k < n
      all_goals first
        | (have hlt' : (k : Int) < (n : Int) := by omega
           obtain ⟨t, ht⟩ := get_some S k (by rw [hn.out]; exact hlt)
           obtain ⟨b, off, rfl, hc1, hc2, hc3⟩ := mark_at HROW.out ht
           have hti : ¬ t.id < id := fun hh => hgo ⟨hlt, t, ht, hh⟩
           clear ht hgo
           go_wp2_with (at_builtin; refine wpList_append_lies _ rfl _ _ 27 rfl base 66 i0 (.agg #[.int .i64 0, .int .i64 0, .int .i64 0]) 3 24 Tryd.underlying27 hi0 hz0 hz1 hz2 rfl (by decide) _ _ _ rfl (OW.out.alloc _) ⟨W1.heap.size, 0, none⟩ 1 1 (Mk.cs ⟨0, 0, 0⟩) rfl rfl (World.news_of_block (heap_alloc_new _ _)) (by intro u hu; simp [Mk.cs] at hu; rw [hu]; rfl) (by decide) (by unfold maxLen; omega) (by omega) (by have := hB1.size; simp; omega) _ rfl ?_)
           clear hc1 hc2 hc3 hti hlt hlt')
        | (have hlt' : ¬ (k : Int) < (n : Int) := by omega
           clear hgo
           go_wp2_with (at_builtin; refine wpList_append_lies _ rfl _ _ 27 rfl base 66 i0 (.agg #[.int .i64 0, .int .i64 0, .int .i64 0]) 3 24 Tryd.underlying27 hi0 hz0 hz1 hz2 rfl (by decide) _ _ _ rfl (OW.out.alloc _) ⟨W1.heap.size, 0, none⟩ 1 1 (Mk.cs ⟨0, 0, 0⟩) rfl rfl (World.news_of_block (heap_alloc_new _ _)) (by intro u hu; simp [Mk.cs] at hu; rw [hu]; rfl) (by decide) (by unfold maxLen; omega) (by omega) (by have := hB1.size; simp; omega) _ rfl ?_)
           clear hlt hlt')
      all_goals
        intro g cap2 w5 hown hgrow hat hg5
        have hT2 := hT1.later (below1 W1 (.cells #[.int .i64 0, .int .i64 0, .int .i64 0] 66))
        have own5 : w5.ownsRow base 66 3 (.slice (some ⟨g, 0, none⟩) (n + 1) cap2) (S ++ [(⟨0, 0, 0⟩ : Mk)]).length (flatG Mk.cs (S ++ [(⟨0, 0, 0⟩ : Mk)])) := by
          rw [flatG_append, flatG_one, List.length_append, hn.out]; exact hown
        have fin := RT.stored hT2 own5 hgrow (fun q hq => by
          have e := Option.some.inj hq
          rw [← e]
          rcases hat with h | h
          · exact .inl h
          · exact .inr (by simp; omega))
        have a5 := (hgrow.block tb (lt_of_at hT2.at_) (fun e => hT2.ne (mem_ob.2 e.symm))).trans hT2.at_
        have b5 := (hgrow.block w.heap.size (lt_of_at (old_at hP1.out _)) (fun e => by
          have := (OW.out.lt _ e.symm).1
          have := (HT0.out.own.lt _ e.symm).2
          omega)).trans (old_at hP1.out _)
        have hgb : base ≤ g := (hown.lt g rfl).1
        have hc5 := cells_at a5
        have ngt : tb ≠ g := fun e => fin.1.ne (mem_ob.2 (by rw [e]; rfl))
        have ngw : w.heap.size ≠ g := fun e => by
          rcases hat with h | h
          · have := (HT0.out.own.lt _ h).2; omega
          · have := lt_of_at hP1.out; omega
        have FIN := hid fin
        have HAT := hid hat
        have ntw : tb ≠ w.heap.size := fun e => by have := lt_of_at HT0.out.at_; omega
        clear hc fin hown hgrow hat OW hT2 own5 a5
        go_wp2_with fail
        obtain ⟨W6, hW6⟩ : ∃ W6, w5.setCell ⟨tb, 0, none⟩ (.slice (some ⟨g, 0, none⟩) (n + 1) cap2) = W6 := ⟨_, rfl⟩
        rw [hW6] at FIN ⊢
        have b6 := hid (show W6.heap[w.heap.size]? = some (.cells #[.int .i64 x, .int .i64 y] 31 (0, 0)) by rw [← hW6]; exact set_off b5 (fun e => ntw e.symm) _)
        clear hW6 hc5 b5 w5 hg5
        have OWN6 : Hid (W6.ownsRow base 66 3 (.slice (some ⟨g, 0, none⟩) (n + 1) cap2) (n + 1) (flatG Mk.cs (insS S n ⟨0, 0, 0⟩))) := by
          have := FIN.out.1.own
          rw [List.length_append, hn.out] at this
          show W6.ownsRow base 66 3 _ _ _
          rw [← hn.out, insS_end, hn.out]
          exact this
        have hcap2 : n + 1 ≤ cap2 ∧ cap2 ≤ 9223372036854775807 := by
          obtain ⟨_, _, _, _, h1, h2⟩ := owns_some OWN6.out (by omega)
          exact ⟨h1, h2⟩
        obtain ⟨hcp1, hcp2⟩ := hcap2
        go_loopw [8] (fun i wr => ∃ (j : Nat) (m : Mk), k ≤ j ∧ j ≤ n ∧ i = .int .i64 (j : Nat) ∧ Hid (wr.ownsRow base 66 3 (.slice (some ⟨g, 0, none⟩) (n + 1) cap2) (n + 1) (flatG Mk.cs (insS S j m))) ∧ Hid (Off [g] W6 wr)) (fun i _ => (intOf i).toNat)
        case atStart => exact ⟨n, ⟨0, 0, 0⟩, hk, Nat.le_refl _, by go_num, OWN6, Off.refl _ _⟩
        case round =>
          obtain ⟨j, m, hkj, hjn, rfl, ho, hoff⟩ := hrel
          have a6 := at_off FIN.out.1.at_ hoff.out (by simpa using ngt)
          have hc6 := cells_at a6
          by_cases hlt : k < j
          · obtain ⟨i, rfl⟩ : ∃ i, j = i + 1 := ⟨j - 1, by omega⟩
            obtain ⟨s, hs⟩ := get_some S i (by rw [hn.out]; omega)
            have hlen : (insS S (i + 1) m).length = n + 1 := by rw [insS_length (by rw [hn.out]; omega), hn.out]
            obtain ⟨m1, hm1, hq1, hq2, hq3⟩ := own_three ho.out (k := i) (by rw [hlen]; omega)
            rw [insS_get hs] at hm1
            have e1 := Option.some.inj hm1
            subst e1
            obtain ⟨m2, hm2, hr1, hr2, hr3⟩ := own_three ho.out (k := i + 1) (by rw [hlen]; omega)
            have z1 := ho.out.frozenAt ((i + 1) * 3)
            have z2 := ho.out.frozenAt ((i + 1) * 3 + 1)
            have z3 := ho.out.frozenAt ((i + 1) * 3 + 2)
            have OS := hid (own_set3 ho.out (k := i + 1) (by rw [hlen]; omega) s)
            rw [insS_step hs] at OS
            have HSM := hid hs
            have lt1 : (k : Int) < (i : Int) + 1 := by omega
            have lt2 : (i : Int) < (n : Int) + 1 := by omega
            have lt3 : (i : Int) + 1 < (n : Int) + 1 := by omega
            clear hm1 hm2 hs hlen a6
            go_wp2_with fail
            go_region
            go_wp2_with fail
            go_roundw
            case rel =>
              refine ⟨i, s, by omega, by omega, by go_num, OS.out, ?_⟩
              have t := hoff.out.trans (off_set3 wr g ((i + 1) * 3) (.int .i64 s.id) (.int .i64 s.x) (.int .i64 s.y)) (fun y hy => .inl hy)
              exact ⟨t.os, t.tape, t.output, t.size, t.block⟩
            case measure => simp [intOf]
          · obtain rfl : j = k := by omega
            have hlen : (insS S j m).length = n + 1 := by rw [insS_length (by rw [hn.out]; omega), hn.out]
            obtain ⟨m2, hm2, hr1, hr2, hr3⟩ := own_three ho.out (k := j) (by rw [hlen]; omega)
            have z1 := ho.out.frozenAt (j * 3)
            have z2 := ho.out.frozenAt (j * 3 + 1)
            have z3 := ho.out.frozenAt (j * 3 + 2)
            have OS := hid (own_set3 ho.out (k := j) (by rw [hlen]; omega) ⟨id, x, y⟩)
            rw [insS_set (by rw [hn.out]; omega)] at OS
            have lt1 : ¬ (j : Int) < (j : Int) := by omega
            have lt2 : (j : Int) < (n : Int) + 1 := by omega
            have hb6 := cells_at (at_off b6.out hoff.out (by simpa using ngw))
            clear hm2 hlen a6
            go_wp2_with fail
            go_region
            go_wp2
            go_ret
            refine ⟨rfl, ?_⟩
            rw [hah.out]
            refine RTurned.behind hB1 (RTurned.behind (below1 W1 (.cells #[.int .i64 0, .int .i64 0, .int .i64 0] 66)) ?_)
            have hO := hoff.out.trans (off_set3 wr g (j * 3) (.int .i64 id) (.int .i64 x) (.int .i64 y)) (fun y hy => .inl hy)
            have hA := at_off FIN.out.1.at_ hO (by simpa using ngt)
            have hO2 := FIN.out.2.trans hO (fun q hq => by
              rw [List.mem_singleton.1 hq]
              rcases HAT.out with h | h
              · exact .inl (List.mem_cons_of_mem _ (mem_ob.2 h))
              · exact .inr (by simp; omega))
            refine ⟨.slice (some ⟨g, 0, none⟩) (n + 1) cap2, ⟨hA, ?_, fun hm => ngt (Option.some.inj (mem_ob.1 hm)).symm, HLO.out⟩, ⟨hO2.os, hO2.tape, hO2.output, hO2.size, hO2.block⟩, fun q hq => ?_⟩
            · rw [insS_length (by rw [hn.out]; omega), hn.out]
              exact OS.out
            · have e := Option.some.inj (mem_ob.1 hq)
              rw [← e]
              rcases HAT.out with h | h
              · exact .inl (mem_ob.2 h)
              · exact .inr (by simp; omega)
end Go.Proofs.YtihmpdjlfpbieaaDoor
