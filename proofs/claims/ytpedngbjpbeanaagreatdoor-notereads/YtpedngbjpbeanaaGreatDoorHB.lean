/- Contracts of thing; rows of things that come in. -/
import Derived.Test.YtpedngbjpbeanaaGreatDoorHA
import Derived.Deep.Slices
namespace Go.Proofs.YtpedngbjpbeanaaGreatDoor
section
open Go.RowKit
set_option linter.unusedVariables false
def heldI (n top : Int) : Int := min (max n 0) top
def serverI (id : Int) : Int := max id 0 % 4
def numberI (s n : Int) : Int := 4 * heldI n 200000 + heldI s 3
theorem heldI_le (n : Int) {top : Int} (ht : 0 ≤ top) : 0 ≤ heldI n top ∧ heldI n top ≤ top := by unfold heldI; omega
theorem thing_whole (w : World) (t : Th) : Calls Tryz.prog 70 #[t.v] w fun e w' => e = .returned (wholeD t).v ∧ Below w.heap.size w w' := by
  go_enter Tryz.func70, Tryz.ntmps70
  go_wp2
  exact bodyPost_ret (v := (wholeD t).v) (by simp [results, Tryz.results70, go_sem, wholeD]) rfl ⟨rfl, Go.Joins.below_alloc2 _ _ _⟩
end
section
open Go.RowKit
set_option linter.unusedVariables false
def fewL (L : List Th) : Bool := L.all (fun t => few4 t.f) && decide (L.length ≤ 30)
theorem fewL_no {L : List Th} {k : Nat} {t : Th} (h : L[k]? = some t) (hf : few4 t.f = false) : fewL L = false := by
  have hm := List.mem_of_getElem? h
  have : L.all (fun t => few4 t.f) = false := by
    rw [List.all_eq_false]
    exact ⟨t, hm, by simp [hf]⟩
  unfold fewL
  rw [this]; rfl
theorem fewL_yes {L : List Th} (h : ∀ j t, j < L.length → L[j]? = some t → few4 t.f = true) : fewL L = decide ((L.length : Int) ≤ 30) := by
  have : L.all (fun t => few4 t.f) = true := by
    rw [List.all_eq_true]
    intro t ht
    obtain ⟨j, hj, rfl⟩ := List.getElem_of_mem ht
    exact h j _ hj (by simp [hj])
  unfold fewL
  rw [this, Bool.true_and]
  rw [Bool.eq_iff_iff]
  simp
  omega
theorem fewT_at {t : Th} {r : Bool} (h : few4 t.f = r) (w : World) (hi : inT t) : Calls Tryz.prog 41 #[t.v] w fun e w' => e = .returned (.bool r) ∧ Below w.heap.size w w' := by
  rw [← h]; exact few_thing w t hi
theorem few_things (w : World) (p : Option Addr) (cap : Nat) (L : List Th) (hr : RowT w p L) (hi : ∀ t ∈ L, inT t) (hm : L.length ≤ maxLen) :
    Calls Tryz.prog 17 #[.slice p L.length cap] w fun e w' => e = .returned (.bool (fewL L)) ∧ Below w.heap.size w w' := by
  obtain ⟨n, hn⟩ : ∃ n, Hid (L.length = n) := ⟨_, rfl⟩
  rw [hn.out] at hm ⊢
  have hm' : n ≤ 9223372036854775807 := by unfold maxLen at hm; omega
  go_enter Tryz.func17, Tryz.ntmps17
  go_wp2_with fail
  go_loopw [3] (fun i wr => ∃ k : Nat, k ≤ n ∧ i = .int .i64 k ∧ (∀ j t, j < k → L[j]? = some t → few4 t.f = true) ∧ Below w.heap.size w wr) (fun i _ => n - (intOf i).toNat)
  case atStart => exact ⟨0, by omega, rfl, fun j t hj => by omega, Below.refl _ _⟩
  case round =>
    obtain ⟨k, hk, rfl, hok, hb⟩ := hrel
    have HO := hid hok
    clear hok
    by_cases hlt : k < n
    · have hlt' : (k : Int) < (n : Int) := by omega
      obtain ⟨t, ht⟩ := get_th L k (by rw [hn.out]; exact hlt)
      obtain ⟨b, off, rfl, hc⟩ := (hr.later hb).at ht
      have HT := hid ht
      clear ht
      have hit := hi t (List.mem_of_getElem? HT.out)
      obtain ⟨q, hq⟩ : ∃ q, Hid (few4 t.f = q) := ⟨_, rfl⟩
      go_wp2_with fail
      refine (fewT_at hq.out _ hit).mono ?_
      rintro x w2 ⟨rfl, hb2⟩
      have hB := below_on hb hb2
      clear hb2 hb hc
      cases q
      · go_wp2_with fail
        go_ret; exact ⟨congrArg (fun x => Ending.returned (.bool x)) (fewL_no HT.out hq.out).symm, hB⟩
      · go_wp2_with fail
        go_roundw
        case rel =>
          refine ⟨k + 1, by omega, by go_num, fun j u hj hu => ?_, hB⟩
          by_cases e : j = k
          · subst e
            have := Option.some.inj (HT.out.symm.trans hu)
            subst this
            exact hq.out
          · exact HO.out j u (by omega) hu
        case measure => simp [intOf]; omega
    · obtain rfl : k = n := by omega
      have hlt' : ¬ (k : Int) < (k : Int) := by omega
      go_wp2_with fail
      go_ret
      exact ⟨congrArg (fun x => Ending.returned (.bool x)) (by rw [fewL_yes (fun j t hj => HO.out j t (by rw [← hn.out]; exact hj)), hn.out]), hb⟩
theorem risesB_one {L : List Th} {m : Nat} {u t : Th} (hL : L.length = m + 1) (hu : L[m]? = some u) : risesB L t = decide (u.id < t.id) := by
  unfold risesB
  rw [hL, show m + 1 - 1 = m by omega, getD_of hu]
  simp
def sameL (L M : List Th) : Bool := decide (L.length = M.length) && (List.range L.length).all (fun k => eqT (L.getD k zT) (M.getD k zT))
theorem sameL_self (L : List Th) : sameL L L = true := by simp [sameL, eqT_self]
theorem sameL_no {L M : List Th} {k : Nat} {t u : Th} (ht : L[k]? = some t) (hu : M[k]? = some u) (h : eqT t u = false) : sameL L M = false := by
  have hk : k < L.length := (List.getElem?_eq_some_iff.1 ht).1
  have : (List.range L.length).all (fun k => eqT (L.getD k zT) (M.getD k zT)) = false := by
    rw [List.all_eq_false]
    exact ⟨k, List.mem_range.2 hk, by rw [getD_of ht, getD_of hu, h]; simp⟩
  unfold sameL
  rw [this, Bool.and_false]
theorem sameL_yes {L M : List Th} (hl : L.length = M.length) (h : ∀ (k : Nat) (t u : Th), L[k]? = some t → M[k]? = some u → eqT t u = true) : sameL L M = true := by
  unfold sameL
  rw [Bool.and_eq_true, decide_eq_true_eq, List.all_eq_true]
  refine ⟨hl, fun k hk => ?_⟩
  have hk := List.mem_range.1 hk
  obtain ⟨t, ht⟩ := get_th L k hk
  obtain ⟨u, hu⟩ := get_th M k (by omega)
  rw [getD_of ht, getD_of hu]
  exact h k t u ht hu
set_option maxHeartbeats 1000000 in
theorem ref_sameAll (w : World) (p p' : Option Addr) (cap cap' : Nat) (L M : List Th) (hr : RowT w p L) (hr' : RowT w p' M) (hm : L.length ≤ maxLen) (hm' : M.length ≤ maxLen) :
    Calls Tryz.prog 35 #[.slice p L.length cap, .slice p' M.length cap'] w fun e w' => e = .returned (.bool (sameL L M)) ∧ Below w.heap.size w w' := by
  by_cases hl : L.length = M.length
  · obtain ⟨n, hn⟩ : ∃ n, Hid (M.length = n) := ⟨_, rfl⟩
    have hl' := hid hl
    rw [hl, hn.out]
    rw [hn.out] at hm'
    have hm2 : n ≤ 9223372036854775807 := by unfold maxLen at hm'; omega
    have hnn : ((n : Int) != (n : Int)) = false := by simp
    clear hl hm
    go_enter Tryz.func35, Tryz.ntmps35
    go_wp2_with fail
    go_loopw [5] (fun i wr => ∃ k : Nat, k ≤ n ∧ i = .int .i64 k ∧ (∀ (j : Nat) (t u : Th), j < k → L[j]? = some t → M[j]? = some u → eqT t u = true) ∧ Below w.heap.size w wr) (fun i _ => n - (intOf i).toNat)
    case atStart => exact ⟨0, by omega, rfl, fun j t u hj => by omega, Below.refl _ _⟩
    case round =>
      obtain ⟨k, hk, rfl, hok, hb⟩ := hrel
      have HO := hid hok
      clear hok
      by_cases hlt : k < n
      · have hlt' : (k : Int) < (n : Int) := by omega
        have hlt0 : (0 : Int) ≤ (k : Int) := by omega
        obtain ⟨t, ht⟩ := get_th L k (by rw [hl'.out, hn.out]; exact hlt)
        obtain ⟨u, hu⟩ := get_th M k (by rw [hn.out]; exact hlt)
        obtain ⟨b, off, rfl, _⟩ := (hr.later hb).at ht
        obtain ⟨b', off', rfl, _⟩ := (hr'.later hb).at hu
        have hc : ∀ d os, cellsT (Sort.grow (redrawn wr d) os) b (off + k * 11) t := fun d os => by
          obtain ⟨_, _, e, h⟩ := ((hr.later hb).later (below_regrown wr d os)).at ht
          simp only [Option.some.injEq, Addr.mk.injEq, and_true] at e
          obtain ⟨rfl, rfl⟩ := e
          exact h
        have hc' : ∀ d os, cellsT (Sort.grow (redrawn wr d) os) b' (off' + k * 11) u := fun d os => by
          obtain ⟨_, _, e, h⟩ := ((hr'.later hb).later (below_regrown wr d os)).at hu
          simp only [Option.some.injEq, Addr.mk.injEq, and_true] at e
          obtain ⟨rfl, rfl⟩ := e
          exact h
        have HT := hid ht
        have HU := hid hu
        clear ht hu
        obtain ⟨q, hq⟩ : ∃ q, Hid (eqT t u = q) := ⟨_, rfl⟩
        have hQ := equal_th_at hq.out
        have hfin : ∀ d os, Hid (Below w.heap.size w (Sort.grow (redrawn wr d) os)) := fun d os => below_on hb (below_regrown wr d os)
        clear hb
        go_wp2_with fail
        refine wp_region_quiet_below (by kernel_rfl) (by kernel_rfl) ?_
        repeat (first | go_big_quiet_skip | (go_big_quiet_want; go_big_quiet_op; first | go_big_quiet_on | go_big_quiet_call (fail)))
        refine wpQuiet_nil ?_
        intro _ hw'
        obtain ⟨⟨dq, osq⟩, hw''⟩ := hw'
        subst hw''
        have hB := hfin dq osq
        obtain ⟨W8, hW8⟩ : ∃ W8, Sort.grow (redrawn wr dq) osq = W8 := ⟨_, rfl⟩
        rw [hW8] at hB ⊢
        clear hW8 hc hc' hfin
        cases q
        · go_wp2_with fail
          go_ret; exact ⟨congrArg (fun x => Ending.returned (.bool x)) (sameL_no HT.out HU.out hq.out).symm, hB.out⟩
        · go_wp2_with fail
          go_roundw
          case rel =>
            refine ⟨k + 1, by omega, by go_num, fun j x y hj hx hy => ?_, hB.out⟩
            by_cases e : j = k
            · subst e
              have e1 := Option.some.inj (HT.out.symm.trans hx)
              have e2 := Option.some.inj (HU.out.symm.trans hy)
              subst e1 e2
              exact hq.out
            · exact HO.out j x y (by omega) hx hy
          case measure => simp [intOf]; omega
      · obtain rfl : k = n := by omega
        go_wp2_with fail
        go_ret
        exact ⟨congrArg (fun x => Ending.returned (.bool x)) (sameL_yes hl'.out (fun j t u ht hu => HO.out j t u (by rw [← hn.out, ← hl'.out]; exact (List.getElem?_eq_some_iff.1 ht).1) ht hu)).symm, hb⟩
  · have hne : ((L.length : Int) != (M.length : Int)) = true := by simp; omega
    have hf : Hid (sameL L M = false) := by show sameL L M = false; unfold sameL; rw [decide_eq_false hl, Bool.false_and]
    clear hl
    go_enter Tryz.func35, Tryz.ntmps35
    go_wp2_with fail
    go_ret; exact ⟨congrArg (fun x => Ending.returned (.bool x)) hf.out.symm, Below.refl _ _⟩
end
section
open Go.RowKit
set_option linter.unusedVariables false
theorem isT_no1 {t : Th} (h : ¬ (0 ≤ t.id ∧ t.id ≤ 1000000)) : isT t = false := by
  rw [isT_eq]
  cases hd : (decide (0 ≤ t.id) && decide (t.id ≤ 1000000))
  · simp
  · simp at hd; omega
theorem isT_no2 {t : Th} (h : onB t.x t.y = false) : isT t = false := by rw [isT_eq, h]; simp
theorem isT_no3 {t : Th} {k : Nat} (hk : k < 4) (h : isF (t.f k) = false) : isT t = false := by
  rw [isT_eq]
  obtain rfl | rfl | rfl | rfl : k = 0 ∨ k = 1 ∨ k = 2 ∨ k = 3 := by omega
  · rw [show isF t.f0 = false from h]; simp
  · rw [show isF t.f1 = false from h]; simp
  · rw [show isF t.f2 = false from h]; simp
  · rw [show isF t.f3 = false from h]; simp
theorem isT_yes {t : Th} (h : 0 ≤ t.id ∧ t.id ≤ 1000000) (h1 : onB t.x t.y = true) (h2 : ∀ j, j < 4 → isF (t.f j) = true) : isT t = true := by
  rw [isT_eq, h1, show isF t.f0 = true from h2 0 (by omega), show isF t.f1 = true from h2 1 (by omega), show isF t.f2 = true from h2 2 (by omega), show isF t.f3 = true from h2 3 (by omega)]
  simp [h]
theorem index_th (t : Th) (k : Nat) (hk : k < 4) (W : World) : (Instr.index 48 (.agg #[.int .i64 t.f0.n, .string t.f0.s, .int .i64 t.f1.n, .string t.f1.s, .int .i64 t.f2.n, .string t.f2.s, .int .i64 t.f3.n, .string t.f3.s]) (.int .i64 k)).run Tryz.prog W = .ok (t.f k).v W := by
  obtain rfl | rfl | rfl | rfl : k = 0 ∨ k = 1 ∨ k = 2 ∨ k = 3 := by omega
  · exact indexA_f0 W _ _ _ _ _ _ _ _
  · exact indexA_f1 W _ _ _ _ _ _ _ _
  · exact indexA_f2 W _ _ _ _ _ _ _ _
  · exact indexA_f3 W _ _ _ _ _ _ _ _
set_option maxHeartbeats 1000000 in
theorem thing_is (w : World) (t : Th) (hi : inT t) : Calls Tryz.prog 61 #[t.v] w fun e w' => e = .returned (.bool (isT t)) ∧ Below w.heap.size w w' := by
  obtain ⟨o, ho⟩ : ∃ o, Hid (onB t.x t.y = o) := ⟨_, rfl⟩
  have K0 : Hid ((w.alloc t.o).heap[w.heap.size]? = some t.o) := new_at _ _ _ rfl
  by_cases hA : 0 ≤ t.id ∧ t.id ≤ 1000000
  · obtain ⟨a1, a2⟩ := hA
    go_enter Tryz.func61, Tryz.ntmps61
    go_wp2_with fail
    refine (on_at ho.out _).mono ?_
    rintro x w1 ⟨rfl, hb1⟩
    have K1 := hid (var_on hb1 K0.out (at_lt K0.out))
    have hB := below_on (below1 w t.o) hb1
    have c1 := cells_at K1.out
    have l1 := at_lt K1.out
    clear hb1 K0
    cases o
    · go_wp2_with fail
      go_ret; exact ⟨congrArg (fun x => Ending.returned (.bool x)) ((isT_no2 ho.out).symm), hB⟩
    · go_wp2_with fail
      clear c1 l1
      go_loopw [21] (fun i wr => ∃ k : Nat, k ≤ 4 ∧ i = .int .i64 k ∧ (∀ j, j < k → isF (t.f j) = true) ∧ Below w.heap.size w wr) (fun i _ => 4 - (intOf i).toNat)
      case atStart => exact ⟨0, by omega, rfl, fun j hj => by omega, hB⟩
      case round =>
        clear hB K1
        obtain ⟨k, hk, rfl, hok, hb⟩ := hrel
        have HO := hid hok
        clear hok
        by_cases hlt : k < 4
        · have hlt' : (k : Int) < 4 := by omega
          have hI := index_th t k hlt
          obtain ⟨f, hf⟩ : ∃ f, Hid (t.f k = f) := ⟨_, rfl⟩
          rw [hf.out] at hI
          have hfs : f.s.size ≤ maxLen := by rw [← hf.out]; exact inT_s hi k
          obtain ⟨q, hq⟩ : ∃ q, Hid (isF f = q) := ⟨_, rfl⟩
          have hs := hb.size
          go_wp2_with fail
          refine (isF_at hq.out _ hfs).mono ?_
          rintro x w2 ⟨rfl, hb2⟩
          have hB2 := below_on (hb.alloc hs f.o) hb2
          clear hb2 hb
          cases q
          · go_wp2_with fail
            go_ret; exact ⟨congrArg (fun x => Ending.returned (.bool x)) ((isT_no3 hlt (by rw [hf.out]; exact hq.out)).symm), hB2⟩
          · go_wp2_with fail
            go_roundw
            case rel =>
              refine ⟨k + 1, by omega, by go_num, fun j hj => ?_, hB2⟩
              by_cases e : j = k
              · subst e; rw [hf.out]; exact hq.out
              · exact HO.out j (by omega)
            case measure => simp [intOf]; omega
        · obtain rfl : k = 4 := by omega
          go_wp2_with fail
          go_ret; exact ⟨congrArg (fun x => Ending.returned (.bool x)) ((isT_yes ⟨a1, a2⟩ ho.out HO.out).symm), hb⟩
  · have hF := hid (isT_no1 hA)
    rw [hF.out]
    go_enter Tryz.func61, Tryz.ntmps61
    go_wp2_with fail
    all_goals first
      | (exfalso; omega)
      | (go_ret; exact ⟨rfl, below1 _ _⟩)
theorem isT_at {t : Th} {q : Bool} (h : Hid (isT t = q)) (w : World) (hi : inT t) : Calls Tryz.prog 61 #[t.v] w fun e w' => e = .returned (.bool q) ∧ Below w.heap.size w w' := by
  rw [← h.out]; exact thing_is w t hi
theorem refT_at {t : Th} {q : Bool} (h : Hid (isT t = q)) (w : World) (hi : inT t) : Calls Tryz.prog 51 #[t.v] w fun e w' => e = .returned (.bool q) ∧ Below w.heap.size w w' := by
  rw [← h.out]; exact ref_isT w t hi
theorem thing_bytes {t : Th} {B : List UInt8} {e : Nat} (h : Hid (bytesT t = (B, e))) (hi : inT t) (w : World) : Calls Tryz.prog 42 #[t.v] w fun x w' => x = .returned (.tuple #[.string ⟨B.toArray⟩, .int .i64 e]) ∧ Below w.heap.size w w' := by
  obtain ⟨q, hq⟩ : ∃ q, Hid (isT t = q) := ⟨_, rfl⟩
  have K0 : Hid ((w.alloc t.o).heap[w.heap.size]? = some t.o) := new_at _ _ _ rfl
  have hp := h.out
  unfold bytesT at hp
  rw [hq.out] at hp
  have HP := hid hp
  clear hp h
  go_enter Tryz.func42, Tryz.ntmps42
  go_wp2_with fail
  refine (isT_at hq _ hi).mono ?_
  rintro x w1 ⟨rfl, hb1⟩
  have K1 := hid (var_on hb1 K0.out (at_lt K0.out))
  have hB := below_on (below1 w t.o) hb1
  have c1 := cells_at K1.out
  have l1 := at_lt K1.out
  clear hb1 K0
  cases q
  · have hp := HP.out
    simp only [Bool.false_eq_true, if_false, Prod.mk.injEq] at hp
    obtain ⟨rfl, rfl⟩ := hp
    go_wp2_with fail
    exact bodyPost_ret (v := .tuple #[.string ⟨#[]⟩, .int .i64 11]) (by simp [results, Tryz.results42, go_sem]) rfl ⟨rfl, hB⟩
  · have hp := HP.out
    simp only [if_true, Prod.mk.injEq] at hp
    obtain ⟨hBt, rfl⟩ := hp
    have hBt := hid hBt
    clear HP
    go_wp2_with fail
    refine (thing_whole _ t).mono ?_
    rintro x w2 ⟨rfl, hb2⟩
    replace hB := below_on hB hb2
    clear hb2 c1 l1
    obtain ⟨D, hD⟩ : ∃ D, Hid (wholeD t = D) := ⟨_, rfl⟩
    have hDD : Hid (isD D = true) := by show isD D = true; rw [← hD.out, isT_whole]; exact hq.out
    have hfit : ∀ k, fitF (D.f k) := by rw [← hD.out]; exact whole_fit hq.out hi
    rw [hD.out]
    go_wp2_with fail
    refine (fields_bytes _ D hDD.out hfit).mono ?_
    rintro x w3 ⟨rfl, hb3⟩
    replace hB := below_on hB hb3
    clear hb3
    have hS : Hid (bytesK D 4 = B) := by show bytesK D 4 = B; rw [← hD.out]; exact hBt.out
    rw [hS.out]
    go_wp2_with fail
    exact bodyPost_ret (v := .tuple #[.string ⟨B.toArray⟩, .int .i64 0]) (by simp [results, Tryz.results42, go_sem]) rfl ⟨rfl, hB⟩
end
section
open Go.RowKit
set_option linter.unusedVariables false
theorem read_at {s : ByteArray} {d : Dl} {n e : Nat} (h : Hid (read s.data.toList = (d, n, e))) (hs : s.size ≤ 1000000) (w : World) : Calls Tryz.prog 71 #[.string s] w fun x w' => x = .returned (.tuple #[d.v, .int .i64 n, .int .i64 e]) ∧ Below w.heap.size w w' := by
  have := fields_read w s hs
  rw [h.out] at this
  exact this
theorem whole_at {t : Th} {E : Dl} (h : Hid (wholeD t = E)) (w : World) : Calls Tryz.prog 70 #[t.v] w fun e w' => e = .returned E.v ∧ Below w.heap.size w w' := by
  rw [← h.out]; exact thing_whole w t
theorem fin3t {T : Th} {z e : Nat} {r : Th × Nat × Nat} (h : r = (T, z, e)) : Ending.returned (.tuple #[T.v, .int .i64 z, .int .i64 e]) = .returned (.tuple #[r.1.v, .int .i64 r.2.1, .int .i64 r.2.2]) := by rw [h]
set_option maxHeartbeats 2000000 in
theorem thing_read {s : ByteArray} {t : Th} {n e : Nat} (h : Hid (readT s.data.toList = (t, n, e))) (hs : s.size ≤ 1000000) (w : World) :
    Calls Tryz.prog 43 #[.string s] w fun x w' => x = .returned (.tuple #[t.v, .int .i64 n, .int .i64 e]) ∧ Below w.heap.size w w' := by
  rcases hR : read s.data.toList with ⟨D, k, x⟩
  have HR := hid hR
  clear hR
  have K0 : Hid ((w.alloc zT.o).heap[w.heap.size]? = some zT.o) := new_at _ _ _ rfl
  by_cases hx : x = 0
  · subst hx
    obtain ⟨E, hE⟩ : ∃ E, Hid (wholeD (toT D) = E) := ⟨_, rfl⟩
    obtain ⟨q, hq⟩ : ∃ q, Hid (eqD D E = q) := ⟨_, rfl⟩
    have hqm : Hid ((D.m == 31) = q) := by show (D.m == 31) = q; rw [← whole_eq, hE.out]; exact hq.out
    have hQ := equal_dl_at hq.out
    obtain ⟨T, hT⟩ : ∃ T, Hid (toT D = T) := ⟨_, rfl⟩
    have hE' : Hid (wholeD T = E) := by show wholeD T = E; rw [← hT.out]; exact hE.out
    go_enter Tryz.func43, Tryz.ntmps43
    obtain ⟨Q, hQ0⟩ : ∃ Q, bodyPost Tryz.prog Tryz.f43 (fun y w' => y = .returned (.tuple #[t.v, .int .i64 n, .int .i64 e]) ∧ Below w.heap.size w w') = Q := ⟨_, rfl⟩
    rw [hQ0]
    have HQ := hid hQ0
    clear hQ0
    go_wp2_with fail
    refine (read_at HR hs _).mono ?_
    rintro y w1 ⟨rfl, hb1⟩
    have K1 := hid (var_on hb1 K0.out (at_lt K0.out))
    have hB := below_on (below1 w zT.o) hb1
    have l1 := at_lt K1.out
    clear hb1 K0
    go_wp2_with fail
    have hB2 : Hid (Below w.heap.size w ((w1.alloc D.o).alloc (toT D).o)) := (hB.alloc (by omega) _).alloc (by simp; omega) _
    have J0 : Hid (((w1.alloc D.o).alloc (toT D).o).heap[w.heap.size]? = some zT.o) := old_at (old_at K1.out _) _
    have J1 : Hid (((w1.alloc D.o).alloc (toT D).o).heap[w1.heap.size]? = some D.o) := old_at (new_at _ _ _ rfl) _
    have J2 : Hid (((w1.alloc D.o).alloc (toT D).o).heap[w1.heap.size + 1]? = some (toT D).o) := new_at _ _ _ (by simp)
    obtain ⟨W2, hW2⟩ : ∃ W2, (w1.alloc D.o).alloc (toT D).o = W2 := ⟨_, rfl⟩
    rw [hW2] at hB2 J0 J1 J2
    unfold Dl.o Th.o toT at hW2
    simp only at hW2
    rw [hW2]
    rw [hT.out] at J2
    clear hW2 hB K1 l1
    have g1 := grown_cells J1.out
    have g2 := grown_cells J2.out
    have hfin : ∀ d os, Hid (Below w.heap.size w (Sort.grow (redrawn W2 d) os)) := fun d os => below_on hB2.out (below_regrown W2 d os)
    have M0 : ∀ d os, Hid ((Sort.grow (redrawn W2 d) os).heap[w.heap.size]? = some zT.o) := fun d os => var_on (below_regrown W2 d os) J0.out (at_lt J0.out)
    have M2 : ∀ d os, Hid ((Sort.grow (redrawn W2 d) os).heap[w1.heap.size + 1]? = some T.o) := fun d os => var_on (below_regrown W2 d os) J2.out (at_lt J2.out)
    refine wp_region_quiet_below (by kernel_rfl) (by kernel_rfl) ?_
    repeat (first | go_big_quiet_skip | (go_big_quiet_want; go_big_quiet_op; first | go_big_quiet_on | go_big_quiet_call (exact Calls.regrown_of (whole_at hE' _))))
    refine wpQuiet_nil ?_
    intro _ hw'
    obtain ⟨⟨dq, osq⟩, hw''⟩ := hw'
    subst hw''
    have hB := (hfin dq osq).out
    have N0 := M0 dq osq
    have N2 := M2 dq osq
    obtain ⟨W8, hW8⟩ : ∃ W8, Sort.grow (redrawn W2 dq) osq = W8 := ⟨_, rfl⟩
    rw [hW8] at hB N0 N2 ⊢
    clear hW8 g1 g2 hfin M0 M2 J0 J1 J2 hB2
    have c0 := cells_at N0.out
    have c2 := cells_at N2.out
    have l0 := at_lt N0.out
    have e1 := h.out
    clear h
    cases q
    · rw [readT_form HR.out (by simpa using hqm.out)] at e1
      simp only [Prod.mk.injEq] at e1
      obtain ⟨rfl, rfl, rfl⟩ := e1
      go_wp2_with fail
      have hq0 := HQ.out
      subst hq0
      exact bodyPost_ret (v := .tuple #[zT.v, .int .i64 0, .int .i64 11]) (by simp [results, Tryz.results43, go_sem, c0, zT, zF]) rfl ⟨rfl, below_set11 hB (by omega) _ _ _ _ _ _ _ _ _ _ _⟩
    · rw [readT_ok HR.out (by simpa using hqm.out)] at e1
      simp only [Prod.mk.injEq] at e1
      obtain ⟨e2, rfl, rfl⟩ := e1
      have eT : T = t := by rw [← hT.out]; exact e2
      subst eT
      clear e2
      go_wp2_with fail
      have hq0 := HQ.out
      subst hq0
      exact bodyPost_ret (v := .tuple #[T.v, .int .i64 k, .int .i64 0]) (by simp [results, Tryz.results43, go_sem, c0]) rfl ⟨rfl, below_set11 hB (by omega) _ _ _ _ _ _ _ _ _ _ _⟩
  · have q1 : ((x : Int) != 0) = true := by simpa using hx
    have e1 := h.out
    clear h
    rw [readT_err HR.out hx] at e1
    simp only [Prod.mk.injEq] at e1
    obtain ⟨rfl, rfl, rfl⟩ := e1
    clear hx
    go_enter Tryz.func43, Tryz.ntmps43
    obtain ⟨Q, hQ0⟩ : ∃ Q, bodyPost Tryz.prog Tryz.f43 (fun y w' => y = .returned (.tuple #[zT.v, .int .i64 ((0 : Nat) : Int), .int .i64 x]) ∧ Below w.heap.size w w') = Q := ⟨_, rfl⟩
    rw [hQ0]
    have HQ := hid hQ0
    clear hQ0
    go_wp2_with fail
    refine (read_at HR hs _).mono ?_
    rintro y w1 ⟨rfl, hb1⟩
    have K1 := hid (var_on hb1 K0.out (at_lt K0.out))
    have hB := below_on (below1 w zT.o) hb1
    have l1 := at_lt K1.out
    have c0 := cells_at K1.out
    clear hb1 K0
    go_wp2_with fail
    have hq0 := HQ.out
    subst hq0
    exact bodyPost_ret (v := .tuple #[zT.v, .int .i64 0, .int .i64 x]) (by simp [results, Tryz.results43, go_sem, c0, zT, zF, l1]) rfl ⟨rfl, (below_set11 hB (by omega) _ _ _ _ _ _ _ _ _ _ _).alloc (by simp; omega) _⟩
end
section
open Go.RowKit Go.ChangeShapes Go.WideShapes Go.Deep Go.Joins
set_option linter.unusedVariables false
set_option maxRecDepth 100000
section
variable {H : Type} {enc : TypeId × Value → H} {w : World} {base : Nat} {spare : Nat → Bool} {held : Bool} {r : Reach} {b0 : Nat} {v : Value} {d : DataW H} {p : List MemPlace}
theorem list11 {α : Type} {l : List α} (h : l.length = 11) : ∃ c0 c1 c2 c3 c4 c5 c6 c7 c8 c9 c10, l = [c0, c1, c2, c3, c4, c5, c6, c7, c8, c9, c10] := by
  match l, h with
  | [c0, c1, c2, c3, c4, c5, c6, c7, c8, c9, c10], _ => exact ⟨c0, c1, c2, c3, c4, c5, c6, c7, c8, c9, c10, rfl⟩
theorem trod_th {fuel : Nat} {cs : List Value} {x : DataW H × List MemPlace} (hl : cs.length = 11) (hf : DataW.trod enc Tryz.prog w base spare held fuel 50 cs = some x) : ∃ t : Th, cs = t.cs ∧ inT t := by
  obtain ⟨c0, c1, c2, c3, c4, c5, c6, c7, c8, c9, c10, rfl⟩ := list11 hl
  obtain ⟨y0, y1, y2, n, _, _, h0, h1, h2⟩ := trod_struct3 Tryz.underlying50 hf
  simp [cellsOf3, cellsOf23, cellsOf26] at h0 h1 h2
  obtain ⟨id, e0, _, _⟩ := DataW.trod_int Tryz.underlying3 h0
  obtain ⟨x, y, rfl, rfl⟩ := trod_pt h1
  obtain ⟨f0, f1, f2, f3, rfl, rfl, rfl, rfl, rfl, rfl, rfl, rfl, i0, i1, i2, i3⟩ := trod_fs h2
  simp only [List.cons.injEq, and_true] at e0
  subst e0
  exact ⟨⟨id, x, y, f0, f1, f2, f3⟩, rfl, i0, i1, i2, i3⟩
theorem open_ths (hv : Value.okWide Tryz.prog w r b0 22 v) (h : DataW.Trod enc Tryz.prog w base spare held 22 v d p) :
    ∃ (a : Option Addr) (cap : Nat) (L : List Th), v = .slice a L.length cap ∧ (∀ t ∈ L, inT t) ∧ RowT w a L ∧ L.length ≤ cap ∧ cap ≤ maxLen := by
  obtain ⟨a, len, cap, rfl⟩ := okWide_slice Tryz.underlying22 hv
  obtain ⟨fuel, hf⟩ := h
  rcases open_slice Tryz.underlying22 hf with ⟨hcs, _⟩ | ⟨a', len', cap', m, n, D, Pl, hcs, _, hl, hm, hmm, _, hx⟩
  · simp [Value.cells] at hcs
    obtain ⟨rfl, rfl, rfl⟩ := hcs
    exact ⟨none, 0, [], rfl, by simp, .inl rfl, by simp, by unfold maxLen; omega⟩
  · simp [Value.cells] at hcs
    obtain ⟨rfl, rfl, rfl⟩ := hcs
    have hlm : len ≤ m := by rw [hmm]; split <;> omega
    rw [cellsOf28] at hx
    obtain ⟨f, hF⟩ := @choose_lt Th ⟨zT⟩ len (fun i t => inT t ∧ ∀ j, j < 11 → w.cell? (a'.add (i * 11 + j)) = t.cs[j]?) (fun i hi => by
      obtain ⟨cs', h1, h2⟩ := hx i (by omega)
      obtain ⟨_, hlen, hcell⟩ := World.cells?_some h1
      obtain ⟨t, rfl, hin⟩ := trod_th hlen h2
      exact ⟨t, hin, fun j hj => by rw [← add_add]; exact hcell j hj⟩)
    refine ⟨some a', cap, (List.range len).map f, by simp, ?_, ?_, by simpa using hl, hm⟩
    · intro t ht
      simp only [List.mem_map, List.mem_range] at ht
      obtain ⟨i, hi, rfl⟩ := ht
      exact (hF i hi).1
    · by_cases h0 : len = 0
      · left; subst h0; rfl
      · right
        obtain ⟨b, off, spot⟩ := a'
        have hc := (hF 0 (by omega)).2 0 (by omega)
        have hspot : spot = none := by
          have := World.cell?_spot (v := .int .i64 (f 0).id) hc
          simpa [Addr.add] using this
        subst hspot
        refine ⟨b, off, rfl, fun k t hk => cellsT_of fun j hj => ?_⟩
        have hk' : k < len := by
          rcases Nat.lt_or_ge k len with h | h
          · exact h
          · rw [List.getElem?_eq_none (by simpa using h)] at hk; cases hk
        rw [List.getElem?_map, List.getElem?_range hk'] at hk
        simp only [Option.map_some, Option.some.injEq] at hk
        subst hk
        have e : (⟨b, off, none⟩ : Addr).add (k * 11 + j) = ⟨b, off + k * 11 + j, none⟩ := by unfold Addr.add; split <;> simp_all [Nat.add_assoc]
        rw [← e]
        exact (hF k hk').2 j hj
end
end
end Go.Proofs.YtpedngbjpbeanaaGreatDoor
