/- Contracts of Is of the packages fields and thing, of the statements' fewThing and fewThings, of the reference's Is and SameAll. No conditions beyond those typed. -/
import Derived.Test.YtildhbkcpehobaaDoorTbP
import Derived.Test.YtildhbkcpehobaaDoorQdT
namespace Go.Proofs.YtildhbkcpehobaaDoor
open Go.RowKit
set_option linter.unusedVariables false
theorem fields_isField (w : World) (f : Fl) (hs : f.s.size ≤ maxLen) : Calls Tryd.prog 40 #[f.v] w fun e w' => e = .returned (.bool (isF f)) ∧ Below w.heap.size w w' := by
  go_enter Tryd.func40, Tryd.ntmps40
  go_wp2 <;> (go_ret; exact ⟨by simp_all [isF] <;> omega, below1 _ _⟩)
theorem few_field (w : World) (f : Fl) (hs : f.s.size ≤ maxLen) : Calls Tryd.prog 33 #[f.v] w fun e w' => e = .returned (.bool (decide (f.s.size ≤ 40))) ∧ Below w.heap.size w w' := by
  go_enter Tryd.func33, Tryd.ntmps33
  go_wp2 <;> (go_ret; exact ⟨by simp <;> omega, below1 _ _⟩)
theorem isF_at {f : Fl} {r : Bool} (h : isF f = r) (w : World) (hs : f.s.size ≤ maxLen) : Calls Tryd.prog 40 #[f.v] w fun e w' => e = .returned (.bool r) ∧ Below w.heap.size w w' := by
  rw [← h]; exact fields_isField w f hs
theorem few_at {f : Fl} {r : Bool} (h : decide (f.s.size ≤ 40) = r) (w : World) (hs : f.s.size ≤ maxLen) : Calls Tryd.prog 33 #[f.v] w fun e w' => e = .returned (.bool r) ∧ Below w.heap.size w w' := by
  rw [← h]; exact few_field w f hs
theorem fewF_at {f : Fl} {r : Bool} (h : fewF f = r) (w : World) (hs : f.s.size ≤ maxLen) : Calls Tryd.prog 33 #[f.v] w fun e w' => e = .returned (.bool r) ∧ Below w.heap.size w w' := few_at h w hs
set_option maxHeartbeats 1000000 in
theorem few_thing (w : World) (d : Th) (hi : inT d) : Calls Tryd.prog 19 #[d.v] w fun e w' => e = .returned (.bool (few4 d.f)) ∧ Below w.heap.size w w' := by
  obtain ⟨i0, i1, i2, i3⟩ := hi
  have s0 := i0.1
  have s1 := i1.1
  have s2 := i2.1
  have s3 := i3.1
  clear i0 i1 i2 i3
  go_enter Tryd.func19, Tryd.ntmps19
  go_wp2_with fail
  go_loopw [3] (fun i wr => ∃ k : Nat, k ≤ 4 ∧ i = .int .i64 k ∧ wr.heap[w.heap.size]? = some d.o ∧ (∀ j, j < k → fewF (d.f j) = true) ∧ Below w.heap.size w wr) (fun i _ => 4 - (intOf i).toNat)
  case atStart => exact ⟨0, by omega, rfl, new_at _ _ _ rfl, fun j hj => by omega, below1 _ _⟩
  case round =>
    obtain ⟨k, hk, rfl, h0, hok, hb⟩ := hrel
    have c0 := cells_at h0
    have l0 := at_lt h0
    have H0 := hid h0
    have HO := hid hok
    clear h0 hok
    obtain rfl | rfl | rfl | rfl | rfl : k = 0 ∨ k = 1 ∨ k = 2 ∨ k = 3 ∨ k = 4 := by omega
    · obtain ⟨p, hp⟩ : ∃ p, Hid (fewF d.f0 = p) := ⟨_, rfl⟩
      go_wp2_with fail
      refine (fewF_at hp.out _ s0).mono ?_
      rintro x w2 ⟨rfl, hb2⟩
      have K := hid (var_on hb2 H0.out l0)
      have hB := below_on hb hb2
      clear hb2 hb
      cases p
      · go_wp2_with fail
        go_ret; exact ⟨congrArg (fun x => Ending.returned (.bool x)) ((few4_no (k := 0) (by omega) hp.out).symm), hB⟩
      · go_wp2_with fail
        first | go_roundw | refine ⟨?rel, ?measure⟩
        case rel => exact ⟨1, by omega, rfl, K.out, few_step HO.out hp.out, hB⟩
        case measure => simp [intOf]
    · obtain ⟨p, hp⟩ : ∃ p, Hid (fewF d.f1 = p) := ⟨_, rfl⟩
      go_wp2_with fail
      refine (fewF_at hp.out _ s1).mono ?_
      rintro x w2 ⟨rfl, hb2⟩
      have K := hid (var_on hb2 H0.out l0)
      have hB := below_on hb hb2
      clear hb2 hb
      cases p
      · go_wp2_with fail
        go_ret; exact ⟨congrArg (fun x => Ending.returned (.bool x)) ((few4_no (k := 1) (by omega) hp.out).symm), hB⟩
      · go_wp2_with fail
        first | go_roundw | refine ⟨?rel, ?measure⟩
        case rel => exact ⟨2, by omega, rfl, K.out, few_step HO.out hp.out, hB⟩
        case measure => simp [intOf]
    · obtain ⟨p, hp⟩ : ∃ p, Hid (fewF d.f2 = p) := ⟨_, rfl⟩
      go_wp2_with fail
      refine (fewF_at hp.out _ s2).mono ?_
      rintro x w2 ⟨rfl, hb2⟩
      have K := hid (var_on hb2 H0.out l0)
      have hB := below_on hb hb2
      clear hb2 hb
      cases p
      · go_wp2_with fail
        go_ret; exact ⟨congrArg (fun x => Ending.returned (.bool x)) ((few4_no (k := 2) (by omega) hp.out).symm), hB⟩
      · go_wp2_with fail
        first | go_roundw | refine ⟨?rel, ?measure⟩
        case rel => exact ⟨3, by omega, rfl, K.out, few_step HO.out hp.out, hB⟩
        case measure => simp [intOf]
    · obtain ⟨p, hp⟩ : ∃ p, Hid (fewF d.f3 = p) := ⟨_, rfl⟩
      go_wp2_with fail
      refine (fewF_at hp.out _ s3).mono ?_
      rintro x w2 ⟨rfl, hb2⟩
      have K := hid (var_on hb2 H0.out l0)
      have hB := below_on hb hb2
      clear hb2 hb
      cases p
      · go_wp2_with fail
        go_ret; exact ⟨congrArg (fun x => Ending.returned (.bool x)) ((few4_no (k := 3) (by omega) hp.out).symm), hB⟩
      · go_wp2_with fail
        first | go_roundw | refine ⟨?rel, ?measure⟩
        case rel => exact ⟨4, by omega, rfl, K.out, few_step HO.out hp.out, hB⟩
        case measure => simp [intOf]
    · go_wp2_with fail
      go_ret; exact ⟨congrArg (fun x => Ending.returned (.bool x)) ((few4_yes HO.out).symm), hb⟩
theorem isT_no1 {t : Th} (h : ¬ (0 ≤ t.id ∧ t.id ≤ 1000000)) : isT t = false := by
  rw [isT_eq]
  cases hd : (decide (0 ≤ t.id) && decide (t.id ≤ 1000000))
  · simp
  · simp at hd; omega
theorem isT_no2 {t : Th} (h : onB t.x t.y = false) : isT t = false := by rw [isT_eq, h]; simp
theorem isT_no3 {t : Th} {k : Nat} (hk : k < 4) (h : isF (t.f k) = false) : isT t = false := by
  rw [isT_eq]
  obtain rfl | rfl | rfl | rfl : k = 0 ∨ k = 1 ∨ k = 2 ∨ k = 3 := by omega
  · rw [show isF t.f0 = false from h]; simp
  · rw [show isF t.f1 = false from h]; simp
  · rw [show isF t.f2 = false from h]; simp
  · rw [show isF t.f3 = false from h]; simp
theorem isT_yes {t : Th} (h : 0 ≤ t.id ∧ t.id ≤ 1000000) (h1 : onB t.x t.y = true) (h2 : ∀ j, j < 4 → isF (t.f j) = true) : isT t = true := by
  rw [isT_eq, h1, show isF t.f0 = true from h2 0 (by omega), show isF t.f1 = true from h2 1 (by omega), show isF t.f2 = true from h2 2 (by omega), show isF t.f3 = true from h2 3 (by omega)]
  simp [h]
theorem index_th (t : Th) (k : Nat) (hk : k < 4) (W : World) : (Instr.index 32 (.agg #[.int .i64 t.f0.n, .string t.f0.s, .int .i64 t.f1.n, .string t.f1.s, .int .i64 t.f2.n, .string t.f2.s, .int .i64 t.f3.n, .string t.f3.s]) (.int .i64 k)).run Tryd.prog W = .ok (t.f k).v W := by
  obtain rfl | rfl | rfl | rfl : k = 0 ∨ k = 1 ∨ k = 2 ∨ k = 3 := by omega
  · exact indexA_f0 W _ _ _ _ _ _ _ _
  · exact indexA_f1 W _ _ _ _ _ _ _ _
  · exact indexA_f2 W _ _ _ _ _ _ _ _
  · exact indexA_f3 W _ _ _ _ _ _ _ _
set_option maxHeartbeats 1000000 in
theorem thing_is (w : World) (t : Th) (hi : inT t) : Calls Tryd.prog 25 #[t.v] w fun e w' => e = .returned (.bool (isT t)) ∧ Below w.heap.size w w' := by
  obtain ⟨o, ho⟩ : ∃ o, Hid (onB t.x t.y = o) := ⟨_, rfl⟩
  have K0 : Hid ((w.alloc t.o).heap[w.heap.size]? = some t.o) := new_at _ _ _ rfl
  by_cases hA : 0 ≤ t.id ∧ t.id ≤ 1000000
  · obtain ⟨a1, a2⟩ := hA
    go_enter Tryd.func25, Tryd.ntmps25
    go_wp2_with fail
    refine (on_at ho _).mono ?_
    rintro x w1 ⟨rfl, hb1⟩
    have K1 := hid (var_on hb1 K0.out (at_lt K0.out))
    have hB := below_on (below1 w t.o) hb1
    have c1 := cells_at K1.out
    have l1 := at_lt K1.out
    clear hb1 K0
    cases o
    · go_wp2_with fail
      go_ret; exact ⟨congrArg (fun x => Ending.returned (.bool x)) ((isT_no2 ho.out).symm), hB⟩
    · go_wp2_with fail
      clear c1 l1
      go_loopw [21] (fun i wr => ∃ k : Nat, k ≤ 4 ∧ i = .int .i64 k ∧ (∀ j, j < k → isF (t.f j) = true) ∧ Below w.heap.size w wr) (fun i _ => 4 - (intOf i).toNat)
      case atStart => exact ⟨0, by omega, rfl, fun j hj => by omega, hB⟩
      case round =>
        clear hB K1
        obtain ⟨k, hk, rfl, hok, hb⟩ := hrel
        have HO := hid hok
        clear hok
        by_cases hlt : k < 4
        · have hlt' : (k : Int) < 4 := by omega
          have hI := index_th t k hlt
          obtain ⟨f, hf⟩ : ∃ f, Hid (t.f k = f) := ⟨_, rfl⟩
          rw [hf.out] at hI
          have hfs : f.s.size ≤ maxLen := by rw [← hf.out]; exact inT_s hi k
          obtain ⟨q, hq⟩ : ∃ q, Hid (isF f = q) := ⟨_, rfl⟩
          have hs := hb.size
          go_wp2_with fail
          refine (isF_at hq.out _ hfs).mono ?_
          rintro x w2 ⟨rfl, hb2⟩
          have hB2 := below_on (hb.alloc hs f.o) hb2
          clear hb2 hb
          cases q
          · go_wp2_with fail
            go_ret; exact ⟨congrArg (fun x => Ending.returned (.bool x)) ((isT_no3 hlt (by rw [hf.out]; exact hq.out)).symm), hB2⟩
          · go_wp2_with fail
            go_roundw
            case rel =>
              refine ⟨k + 1, by omega, by go_num, fun j hj => ?_, hB2⟩
              by_cases e : j = k
              · subst e; rw [hf.out]; exact hq.out
              · exact HO.out j (by omega)
            case measure => simp [intOf]; omega
        · obtain rfl : k = 4 := by omega
          go_wp2_with fail
          go_ret; exact ⟨congrArg (fun x => Ending.returned (.bool x)) ((isT_yes ⟨a1, a2⟩ ho.out HO.out).symm), hb⟩
  · have hF := hid (isT_no1 hA)
    rw [hF.out]
    go_enter Tryd.func25, Tryd.ntmps25
    go_wp2_with fail
    all_goals first
      | (exfalso; omega)
      | (go_ret; exact ⟨rfl, below1 _ _⟩)
theorem isT_at {t : Th} {q : Bool} (h : Hid (isT t = q)) (w : World) (hi : inT t) : Calls Tryd.prog 25 #[t.v] w fun e w' => e = .returned (.bool q) ∧ Below w.heap.size w w' := by
  rw [← h.out]; exact thing_is w t hi
def fewL (L : List Th) : Bool := L.all (fun t => few4 t.f) && decide (L.length ≤ 30)
theorem fewL_no {L : List Th} {k : Nat} {t : Th} (h : L[k]? = some t) (hf : few4 t.f = false) : fewL L = false := by
  have hm := List.mem_of_getElem? h
  have : L.all (fun t => few4 t.f) = false := by
    rw [List.all_eq_false]
    exact ⟨t, hm, by simp [hf]⟩
  unfold fewL
  rw [this]; rfl
theorem fewL_yes {L : List Th} (h : ∀ j t, j < L.length → L[j]? = some t → few4 t.f = true) : fewL L = decide ((L.length : Int) ≤ 30) := by
  have : L.all (fun t => few4 t.f) = true := by
    rw [List.all_eq_true]
    intro t ht
    obtain ⟨j, hj, rfl⟩ := List.getElem_of_mem ht
    exact h j _ hj (by simp [hj])
  unfold fewL
  rw [this, Bool.true_and]
  rw [Bool.eq_iff_iff]
  simp
  omega
theorem fewT_at {t : Th} {r : Bool} (h : few4 t.f = r) (w : World) (hi : inT t) : Calls Tryd.prog 19 #[t.v] w fun e w' => e = .returned (.bool r) ∧ Below w.heap.size w w' := by
  rw [← h]; exact few_thing w t hi
theorem few_things (w : World) (p : Option Addr) (cap : Nat) (L : List Th) (hr : RowT w p L) (hi : ∀ t ∈ L, inT t) (hm : L.length ≤ maxLen) :
    Calls Tryd.prog 7 #[.slice p L.length cap] w fun e w' => e = .returned (.bool (fewL L)) ∧ Below w.heap.size w w' := by
  obtain ⟨n, hn⟩ : ∃ n, Hid (L.length = n) := ⟨_, rfl⟩
  rw [hn.out] at hm ⊢
  have hm' : n ≤ 9223372036854775807 := by unfold maxLen at hm; omega
  go_enter Tryd.func7, Tryd.ntmps7
  go_wp2_with fail
  go_loopw [3] (fun i wr => ∃ k : Nat, k ≤ n ∧ i = .int .i64 k ∧ (∀ j t, j < k → L[j]? = some t → few4 t.f = true) ∧ Below w.heap.size w wr) (fun i _ => n - (intOf i).toNat)
  case atStart => exact ⟨0, by omega, rfl, fun j t hj => by omega, Below.refl _ _⟩
  case round =>
    obtain ⟨k, hk, rfl, hok, hb⟩ := hrel
    have HO := hid hok
    clear hok
    by_cases hlt : k < n
    · have hlt' : (k : Int) < (n : Int) := by omega
      obtain ⟨t, ht⟩ := get_th L k (by rw [hn.out]; exact hlt)
      obtain ⟨b, off, rfl, hc⟩ := (hr.later hb).at ht
      have HT := hid ht
      clear ht
      have hit := hi t (List.mem_of_getElem? HT.out)
      obtain ⟨q, hq⟩ : ∃ q, Hid (few4 t.f = q) := ⟨_, rfl⟩
      go_wp2_with fail
      refine (fewT_at hq.out _ hit).mono ?_
      rintro x w2 ⟨rfl, hb2⟩
      have hB := below_on hb hb2
      clear hb2 hb hc
      cases q
      · go_wp2_with fail
        go_ret; exact ⟨congrArg (fun x => Ending.returned (.bool x)) (fewL_no HT.out hq.out).symm, hB⟩
      · go_wp2_with fail
        go_roundw
        case rel =>
          refine ⟨k + 1, by omega, by go_num, fun j u hj hu => ?_, hB⟩
          by_cases e : j = k
          · subst e
            have := Option.some.inj (HT.out.symm.trans hu)
            subst this
            exact hq.out
          · exact HO.out j u (by omega) hu
        case measure => simp [intOf]; omega
    · obtain rfl : k = n := by omega
      have hlt' : ¬ (k : Int) < (k : Int) := by omega
      go_wp2_with fail
      go_ret
      exact ⟨congrArg (fun x => Ending.returned (.bool x)) (by rw [fewL_yes (fun j t hj => HO.out j t (by rw [← hn.out]; exact hj)), hn.out]), hb⟩
def sameL (L M : List Th) : Bool := decide (L.length = M.length) && (List.range L.length).all (fun k => eqT (L.getD k zT) (M.getD k zT))
theorem sameL_self (L : List Th) : sameL L L = true := by simp [sameL, eqT_self]
theorem sameL_no {L M : List Th} {k : Nat} {t u : Th} (ht : L[k]? = some t) (hu : M[k]? = some u) (h : eqT t u = false) : sameL L M = false := by
  have hk : k < L.length := (List.getElem?_eq_some_iff.1 ht).1
  have : (List.range L.length).all (fun k => eqT (L.getD k zT) (M.getD k zT)) = false := by
    rw [List.all_eq_false]
    exact ⟨k, List.mem_range.2 hk, by rw [getD_of ht, getD_of hu, h]; simp⟩
  unfold sameL
  rw [this, Bool.and_false]
theorem sameL_yes {L M : List Th} (hl : L.length = M.length) (h : ∀ (k : Nat) (t u : Th), L[k]? = some t → M[k]? = some u → eqT t u = true) : sameL L M = true := by
  unfold sameL
  rw [Bool.and_eq_true, decide_eq_true_eq, List.all_eq_true]
  refine ⟨hl, fun k hk => ?_⟩
  have hk := List.mem_range.1 hk
  obtain ⟨t, ht⟩ := get_th L k hk
  obtain ⟨u, hu⟩ := get_th M k (by omega)
  rw [getD_of ht, getD_of hu]
  exact h k t u ht hu
end Go.Proofs.YtildhbkcpehobaaDoor
