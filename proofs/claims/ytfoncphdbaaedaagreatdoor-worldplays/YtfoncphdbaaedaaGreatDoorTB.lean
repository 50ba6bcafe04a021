/- Contracts of Is of the packages fields and thing, of the statements' fewThing and fewThings, of the reference's Is and SameAll. No conditions beyond those typed. Plain facts on rows of things that rise by their numbers, and on their marks: what is put, set, dropped, found. Of no program. Contracts of the package table over this translation, first part: how a table lies in memory; has, Len, Get, New. What a table holds is a row of things, rising by their numbers. No conditions beyond those typed. Contracts of the package table over this translation, second part: those, In, Cell, All: new rows of things, rising. No conditions beyond those typed. -/
import Derived.Test.YtfoncphdbaaedaaGreatDoorTA
import Derived.Test.YtfoncphdbaaedaaGreatDoorQD
import Derived.Test.YtfoncphdbaaedaaGreatDoorQE
import Derived.Test.YtfoncphdbaaedaaGreatDoorShf
import Derived.Test.YtfoncphdbaaedaaGreatDoorCells
import Derived.Deep.RegionHeld3
namespace Go.Proofs.YtfoncphdbaaedaaGreatDoor
section
open Go.RowKit
set_option linter.unusedVariables false
theorem fields_isField (w : World) (f : Fl) (hs : f.s.size ≤ maxLen) : Calls Tryz.prog 91 #[f.v] w fun e w' => e = .returned (.bool (isF f)) ∧ Below w.heap.size w w' := by
  go_enter Tryz.func91, Tryz.ntmps91
  go_wp2 <;> (go_ret; exact ⟨by simp_all [isF] <;> omega, below1 _ _⟩)
theorem ref_isField (w : World) (f : Fl) (hs : f.s.size ≤ maxLen) : Calls Tryz.prog 54 #[f.v] w fun e w' => e = .returned (.bool (isF f)) ∧ Below w.heap.size w w' := by
  go_enter Tryz.func54, Tryz.ntmps54
  go_wp2 <;> (go_ret; exact ⟨by simp_all [isF] <;> omega, below1 _ _⟩)
theorem isF_at {f : Fl} {r : Bool} (h : isF f = r) (w : World) (hs : f.s.size ≤ maxLen) : Calls Tryz.prog 91 #[f.v] w fun e w' => e = .returned (.bool r) ∧ Below w.heap.size w w' := by
  rw [← h]; exact fields_isField w f hs
theorem refF_at {f : Fl} {r : Bool} (h : isF f = r) (w : World) (hs : f.s.size ≤ maxLen) : Calls Tryz.prog 54 #[f.v] w fun e w' => e = .returned (.bool r) ∧ Below w.heap.size w w' := by
  rw [← h]; exact ref_isField w f hs
theorem refOn_at {x y : Int} {r : Bool} (h : onB x y = r) (w : World) : Calls Tryz.prog 55 #[pt x y] w fun e w' => e = .returned (.bool r) ∧ Below w.heap.size w w' := by
  rw [← h]; exact ref_on w x y
theorem isT_no1 {t : Th} (h : ¬ (0 ≤ t.id ∧ t.id ≤ 1000000)) : isT t = false := by
  rw [isT_eq]
  cases hd : (decide (0 ≤ t.id) && decide (t.id ≤ 1000000))
  · simp
  · simp at hd; omega
theorem isT_no2 {t : Th} (h : onB t.x t.y = false) : isT t = false := by rw [isT_eq, h]; simp
theorem isT_no3 {t : Th} {k : Nat} (hk : k < 4) (h : isF (t.f k) = false) : isT t = false := by
  rw [isT_eq]
  obtain rfl | rfl | rfl | rfl : k = 0 ∨ k = 1 ∨ k = 2 ∨ k = 3 := by omega
  · rw [show isF t.f0 = false from h]; simp
  · rw [show isF t.f1 = false from h]; simp
  · rw [show isF t.f2 = false from h]; simp
  · rw [show isF t.f3 = false from h]; simp
theorem isT_yes {t : Th} (h : 0 ≤ t.id ∧ t.id ≤ 1000000) (h1 : onB t.x t.y = true) (h2 : ∀ j, j < 4 → isF (t.f j) = true) : isT t = true := by
  rw [isT_eq, h1, show isF t.f0 = true from h2 0 (by omega), show isF t.f1 = true from h2 1 (by omega), show isF t.f2 = true from h2 2 (by omega), show isF t.f3 = true from h2 3 (by omega)]
  simp [h]
theorem index_th (t : Th) (k : Nat) (hk : k < 4) (W : World) : (Instr.index 35 (.agg #[.int .i64 t.f0.n, .string t.f0.s, .int .i64 t.f1.n, .string t.f1.s, .int .i64 t.f2.n, .string t.f2.s, .int .i64 t.f3.n, .string t.f3.s]) (.int .i64 k)).run Tryz.prog W = .ok (t.f k).v W := by
  obtain rfl | rfl | rfl | rfl : k = 0 ∨ k = 1 ∨ k = 2 ∨ k = 3 := by omega
  · exact indexA_f0 W _ _ _ _ _ _ _ _
  · exact indexA_f1 W _ _ _ _ _ _ _ _
  · exact indexA_f2 W _ _ _ _ _ _ _ _
  · exact indexA_f3 W _ _ _ _ _ _ _ _
set_option maxHeartbeats 1000000 in
theorem thing_is (w : World) (t : Th) (hi : inT t) : Calls Tryz.prog 67 #[t.v] w fun e w' => e = .returned (.bool (isT t)) ∧ Below w.heap.size w w' := by
  obtain ⟨o, ho⟩ : ∃ o, Hid (onB t.x t.y = o) := ⟨_, rfl⟩
  have K0 : Hid ((w.alloc t.o).heap[w.heap.size]? = some t.o) := new_at _ _ _ rfl
  by_cases hA : 0 ≤ t.id ∧ t.id ≤ 1000000
  · obtain ⟨a1, a2⟩ := hA
    go_enter Tryz.func67, Tryz.ntmps67
    go_wp2_with fail
    refine (on_at ho _).mono ?_
    rintro x w1 ⟨rfl, hb1⟩
    have K1 := hid (var_on hb1 K0.out (at_lt K0.out))
    have hB := below_on (below1 w t.o) hb1
    have c1 := cells_at K1.out
    have l1 := at_lt K1.out
    clear hb1 K0
    cases o
    · go_wp2_with fail
      go_ret; exact ⟨congrArg (fun x => Ending.returned (.bool x)) ((isT_no2 ho.out).symm), hB⟩
    · go_wp2_with fail
      clear c1 l1
      go_loopw [21] (fun i wr => ∃ k : Nat, k ≤ 4 ∧ i = .int .i64 k ∧ (∀ j, j < k → isF (t.f j) = true) ∧ Below w.heap.size w wr) (fun i _ => 4 - (intOf i).toNat)
      case atStart => exact ⟨0, by omega, rfl, fun j hj => by omega, hB⟩
      case round =>
        clear hB K1
        obtain ⟨k, hk, rfl, hok, hb⟩ := hrel
        have HO := hid hok
        clear hok
        by_cases hlt : k < 4
        · have hlt' : (k : Int) < 4 := by omega
          have hI := index_th t k hlt
          obtain ⟨f, hf⟩ : ∃ f, Hid (t.f k = f) := ⟨_, rfl⟩
          rw [hf.out] at hI
          have hfs : f.s.size ≤ maxLen := by rw [← hf.out]; exact inT_s hi k
          obtain ⟨q, hq⟩ : ∃ q, Hid (isF f = q) := ⟨_, rfl⟩
          have hs := hb.size
          go_wp2_with fail
          refine (isF_at hq.out _ hfs).mono ?_
          rintro x w2 ⟨rfl, hb2⟩
          have hB2 := below_on (hb.alloc hs f.o) hb2
          clear hb2 hb
          cases q
          · go_wp2_with fail
            go_ret; exact ⟨congrArg (fun x => Ending.returned (.bool x)) ((isT_no3 hlt (by rw [hf.out]; exact hq.out)).symm), hB2⟩
          · go_wp2_with fail
            go_roundw
            case rel =>
              refine ⟨k + 1, by omega, by go_num, fun j hj => ?_, hB2⟩
              by_cases e : j = k
              · subst e; rw [hf.out]; exact hq.out
              · exact HO.out j (by omega)
            case measure => simp [intOf]; omega
        · obtain rfl : k = 4 := by omega
          go_wp2_with fail
          go_ret; exact ⟨congrArg (fun x => Ending.returned (.bool x)) ((isT_yes ⟨a1, a2⟩ ho.out HO.out).symm), hb⟩
  · have hF := hid (isT_no1 hA)
    rw [hF.out]
    go_enter Tryz.func67, Tryz.ntmps67
    go_wp2_with fail
    all_goals first
      | (exfalso; omega)
      | (go_ret; exact ⟨rfl, below1 _ _⟩)
theorem isT_at {t : Th} {q : Bool} (h : Hid (isT t = q)) (w : World) (hi : inT t) : Calls Tryz.prog 67 #[t.v] w fun e w' => e = .returned (.bool q) ∧ Below w.heap.size w w' := by
  rw [← h.out]; exact thing_is w t hi
def fewL (L : List Th) : Bool := L.all (fun t => few4 t.f) && decide (L.length ≤ 30)
theorem fewL_no {L : List Th} {k : Nat} {t : Th} (h : L[k]? = some t) (hf : few4 t.f = false) : fewL L = false := by
  have hm := List.mem_of_getElem? h
  have : L.all (fun t => few4 t.f) = false := by
    rw [List.all_eq_false]
    exact ⟨t, hm, by simp [hf]⟩
  unfold fewL
  rw [this]; rfl
theorem fewL_yes {L : List Th} (h : ∀ j t, j < L.length → L[j]? = some t → few4 t.f = true) : fewL L = decide ((L.length : Int) ≤ 30) := by
  have : L.all (fun t => few4 t.f) = true := by
    rw [List.all_eq_true]
    intro t ht
    obtain ⟨j, hj, rfl⟩ := List.getElem_of_mem ht
    exact h j _ hj (by simp [hj])
  unfold fewL
  rw [this, Bool.true_and]
  rw [Bool.eq_iff_iff]
  simp
  omega
def sameL (L M : List Th) : Bool := decide (L.length = M.length) && (List.range L.length).all (fun k => eqT (L.getD k zT) (M.getD k zT))
theorem sameL_self (L : List Th) : sameL L L = true := by simp [sameL, eqT_self]
theorem sameL_no {L M : List Th} {k : Nat} {t u : Th} (ht : L[k]? = some t) (hu : M[k]? = some u) (h : eqT t u = false) : sameL L M = false := by
  have hk : k < L.length := (List.getElem?_eq_some_iff.1 ht).1
  have : (List.range L.length).all (fun k => eqT (L.getD k zT) (M.getD k zT)) = false := by
    rw [List.all_eq_false]
    exact ⟨k, List.mem_range.2 hk, by rw [getD_of ht, getD_of hu, h]; simp⟩
  unfold sameL
  rw [this, Bool.and_false]
theorem sameL_yes {L M : List Th} (hl : L.length = M.length) (h : ∀ (k : Nat) (t u : Th), L[k]? = some t → M[k]? = some u → eqT t u = true) : sameL L M = true := by
  unfold sameL
  rw [Bool.and_eq_true, decide_eq_true_eq, List.all_eq_true]
  refine ⟨hl, fun k hk => ?_⟩
  have hk := List.mem_range.1 hk
  obtain ⟨t, ht⟩ := get_th L k hk
  obtain ⟨u, hu⟩ := get_th M k (by omega)
  rw [getD_of ht, getD_of hu]
  exact h k t u ht hu
set_option maxHeartbeats 1000000 in
theorem ref_sameAll (w : World) (p p' : Option Addr) (cap cap' : Nat) (L M : List Th) (hr : RowT w p L) (hr' : RowT w p' M) (hm : L.length ≤ maxLen) (hm' : M.length ≤ maxLen) :
    Calls Tryz.prog 13 #[.slice p L.length cap, .slice p' M.length cap'] w fun e w' => e = .returned (.bool (sameL L M)) ∧ Below w.heap.size w w' := by
  by_cases hl : L.length = M.length
  · obtain ⟨n, hn⟩ : ∃ n, Hid (M.length = n) := ⟨_, rfl⟩
    have hl' := hid hl
    rw [hl, hn.out]
    rw [hn.out] at hm'
    have hm2 : n ≤ 9223372036854775807 := by unfold maxLen at hm'; omega
    have hnn : ((n : Int) != (n : Int)) = false := by simp
    clear hl hm
    go_enter Tryz.func13, Tryz.ntmps13
    go_wp2_with fail
    go_loopw [5] (fun i wr => ∃ k : Nat, k ≤ n ∧ i = .int .i64 k ∧ (∀ (j : Nat) (t u : Th), j < k → L[j]? = some t → M[j]? = some u → eqT t u = true) ∧ Below w.heap.size w wr) (fun i _ => n - (intOf i).toNat)
    case atStart => exact ⟨0, by omega, rfl, fun j t u hj => by omega, Below.refl _ _⟩
    case round =>
      obtain ⟨k, hk, rfl, hok, hb⟩ := hrel
      have HO := hid hok
      clear hok
      by_cases hlt : k < n
      · have hlt' : (k : Int) < (n : Int) := by omega
        have hlt0 : (0 : Int) ≤ (k : Int) := by omega
        obtain ⟨t, ht⟩ := get_th L k (by rw [hl'.out, hn.out]; exact hlt)
        obtain ⟨u, hu⟩ := get_th M k (by rw [hn.out]; exact hlt)
        obtain ⟨b, off, rfl, _⟩ := (hr.later hb).at ht
        obtain ⟨b', off', rfl, _⟩ := (hr'.later hb).at hu
        have hc : ∀ d os, cellsT (Sort.grow (redrawn wr d) os) b (off + k * 11) t := fun d os => by
          obtain ⟨_, _, e, h⟩ := ((hr.later hb).later (below_regrown wr d os)).at ht
          simp only [Option.some.injEq, Addr.mk.injEq, and_true] at e
          obtain ⟨rfl, rfl⟩ := e
          exact h
        have hc' : ∀ d os, cellsT (Sort.grow (redrawn wr d) os) b' (off' + k * 11) u := fun d os => by
          obtain ⟨_, _, e, h⟩ := ((hr'.later hb).later (below_regrown wr d os)).at hu
          simp only [Option.some.injEq, Addr.mk.injEq, and_true] at e
          obtain ⟨rfl, rfl⟩ := e
          exact h
        have HT := hid ht
        have HU := hid hu
        clear ht hu
        obtain ⟨q, hq⟩ : ∃ q, Hid (eqT t u = q) := ⟨_, rfl⟩
        have hQ := equal_th_at hq.out
        have hfin : ∀ d os, Hid (Below w.heap.size w (Sort.grow (redrawn wr d) os)) := fun d os => below_on hb (below_regrown wr d os)
        clear hb
        go_wp2_with fail
        refine wp_region_quiet_below (by kernel_rfl) (by kernel_rfl) ?_
        repeat (first | go_big_quiet_skip | (go_big_quiet_want; go_big_quiet_op; first | go_big_quiet_on | go_big_quiet_call (fail)))
        refine wpQuiet_nil ?_
        intro _ hw'
        obtain ⟨⟨dq, osq⟩, hw''⟩ := hw'
        subst hw''
        have hB := hfin dq osq
        obtain ⟨W8, hW8⟩ : ∃ W8, Sort.grow (redrawn wr dq) osq = W8 := ⟨_, rfl⟩
        rw [hW8] at hB ⊢
        clear hW8 hc hc' hfin
        cases q
        · go_wp2_with fail
          go_ret; exact ⟨congrArg (fun x => Ending.returned (.bool x)) (sameL_no HT.out HU.out hq.out).symm, hB.out⟩
        · go_wp2_with fail
          go_roundw
          case rel =>
            refine ⟨k + 1, by omega, by go_num, fun j x y hj hx hy => ?_, hB.out⟩
            by_cases e : j = k
            · subst e
              have e1 := Option.some.inj (HT.out.symm.trans hx)
              have e2 := Option.some.inj (HU.out.symm.trans hy)
              subst e1 e2
              exact hq.out
            · exact HO.out j x y (by omega) hx hy
          case measure => simp [intOf]; omega
      · obtain rfl : k = n := by omega
        go_wp2_with fail
        go_ret
        exact ⟨congrArg (fun x => Ending.returned (.bool x)) (sameL_yes hl'.out (fun j t u ht hu => HO.out j t u (by rw [← hn.out, ← hl'.out]; exact (List.getElem?_eq_some_iff.1 ht).1) ht hu)).symm, hb⟩
  · have hne : ((L.length : Int) != (M.length : Int)) = true := by simp; omega
    have hf : Hid (sameL L M = false) := by show sameL L M = false; unfold sameL; rw [decide_eq_false hl, Bool.false_and]
    clear hl
    go_enter Tryz.func13, Tryz.ntmps13
    go_wp2_with fail
    go_ret; exact ⟨congrArg (fun x => Ending.returned (.bool x)) hf.out.symm, Below.refl _ _⟩
end
section
open Go.RowKit Go.Maps
set_option linter.unusedVariables false
def mkT (t : Th) : Mk := ⟨t.id, t.x, t.y⟩
def marks (L : List Th) : List Mk := L.map mkT
theorem marks_length (L : List Th) : (marks L).length = L.length := by simp [marks]
theorem marks_rise {L : List Th} (h : Rise L) : (marks L).Pairwise (fun a b => a.id < b.id) := by
  unfold marks
  rw [List.pairwise_map]
  exact h
theorem mk_eq {A B : List Mk} (hp : A.Perm B) (hA : A.Pairwise (fun a b => a.id < b.id)) (hB : B.Pairwise (fun a b => a.id < b.id)) : A = B :=
  List.Perm.eq_of_pairwise (le := fun a b => a.id < b.id) (fun a b _ _ h1 h2 => by omega) hA hB hp
theorem th_eq {A B : List Th} (hp : A.Perm B) (hA : Rise A) (hB : Rise B) : A = B :=
  List.Perm.eq_of_pairwise (le := fun a b => a.id < b.id) (fun a b _ _ h1 h2 => by omega) hA hB hp
theorem ins_perm (t : Th) : ∀ L : List Th, (insT t L).Perm (t :: L)
  | [] => .refl _
  | a :: r => by
    unfold insT
    split
    · exact .refl _
    · exact ((ins_perm t r).cons a).trans (List.Perm.swap t a r)
theorem ins_rising {t : Th} : ∀ {L : List Th}, Rise L → (∀ a ∈ L, a.id ≠ t.id) → Rise (insT t L)
  | [], _, _ => List.pairwise_singleton _ _
  | a :: r, h, hn => by
    obtain ⟨h1, h2⟩ := List.pairwise_cons.1 h
    unfold insT
    split
    · rename_i hlt
      refine List.pairwise_cons.2 ⟨fun b hb => ?_, h⟩
      rcases List.mem_cons.1 hb with rfl | hb
      · exact hlt
      · have := h1 b hb; omega
    · rename_i hlt
      refine List.pairwise_cons.2 ⟨fun b hb => ?_, ins_rising h2 (fun b hb => hn b (List.mem_cons_of_mem _ hb))⟩
      rcases List.mem_cons.1 ((ins_perm t r).mem_iff.1 hb) with rfl | hb
      · have := hn a List.mem_cons_self; omega
      · exact h1 b hb
theorem out_mem {id : Int} {L : List Th} {a : Th} : a ∈ outT id L ↔ a ∈ L ∧ a.id ≠ id := by
  unfold outT
  rw [List.mem_filter]
  simp
theorem out_rise {id : Int} {L : List Th} (h : Rise L) : Rise (outT id L) := h.filter _
theorem wit_rise {t : Th} {L : List Th} (h : Rise L) : Rise (witT t L) := ins_rising (out_rise h) (fun a ha => (out_mem.1 ha).2)
theorem wit_mem {t a : Th} {L : List Th} : a ∈ witT t L ↔ a = t ∨ (a ∈ L ∧ a.id ≠ t.id) := by
  unfold witT
  rw [(ins_perm t _).mem_iff, List.mem_cons, out_mem]
theorem has_iff {id : Int} {L : List Th} : hasT id L = true ↔ ∃ a ∈ L, a.id = id := by
  unfold hasT
  rw [List.any_eq_true]
  simp
theorem has_no {id : Int} {L : List Th} (h : hasT id L = false) : ∀ a ∈ L, a.id ≠ id := fun a ha e => by
  rw [has_iff.2 ⟨a, ha, e⟩] at h
  cases h
theorem out_no {id : Int} {L : List Th} (h : hasT id L = false) : outT id L = L := by
  unfold outT
  rw [List.filter_eq_self]
  intro a ha
  simpa using has_no h a ha
theorem rise_uniq {L : List Th} (h : Rise L) {a b : Th} (ha : a ∈ L) (hb : b ∈ L) (e : a.id = b.id) : a = b := by
  induction L with
  | nil => cases ha
  | cons c L ih =>
    obtain ⟨h1, h2⟩ := List.pairwise_cons.1 h
    rcases List.mem_cons.1 ha with e1 | ha1
    · rcases List.mem_cons.1 hb with e2 | hb1
      · rw [e1, e2]
      · have := h1 b hb1; rw [← e1] at this; omega
    · rcases List.mem_cons.1 hb with e2 | hb1
      · have := h1 a ha1; rw [← e2] at this; omega
      · exact ih h2 ha1 hb1
theorem out_perm {t : Th} : ∀ {L : List Th}, Rise L → t ∈ L → L.Perm (t :: outT t.id L)
  | [], _, h => by cases h
  | a :: r, h, hm => by
    obtain ⟨h1, h2⟩ := List.pairwise_cons.1 h
    by_cases e : a.id = t.id
    · obtain rfl := rise_uniq h List.mem_cons_self hm e
      have hno : outT a.id r = r := by
        unfold outT
        rw [List.filter_eq_self]
        intro b hb
        have := h1 b hb
        simp
        omega
      have : outT a.id (a :: r) = outT a.id r := by unfold outT; simp
      rw [this, hno]
    · have hm' : t ∈ r := by
        rcases List.mem_cons.1 hm with rfl | hm
        · exact absurd rfl e
        · exact hm
      have : outT t.id (a :: r) = a :: outT t.id r := by unfold outT; simp [e]
      rw [this]
      exact ((out_perm h2 hm').cons a).trans (List.Perm.swap t a _)
theorem out_length1 {t : Th} {L : List Th} (h : Rise L) (hm : t ∈ L) : (outT t.id L).length + 1 = L.length := by
  have := (out_perm h hm).length_eq
  simpa using this.symm
theorem wit_length0 {t : Th} {L : List Th} (h : hasT t.id L = false) : (witT t L).length = L.length + 1 := by
  unfold witT
  rw [out_no h, ins_length]
theorem wit_length1 {t : Th} {L : List Th} (hr : Rise L) (h : hasT t.id L = true) : (witT t L).length = L.length := by
  obtain ⟨a, ha, e⟩ := has_iff.1 h
  unfold witT
  rw [ins_length, ← e]
  exact out_length1 hr ha
theorem find_mem_th {L : List Th} (h : Rise L) {t : Th} (hm : t ∈ L) : findT t.id L = some t := by
  unfold findT
  cases hf : L.find? (fun a => a.id == t.id) with
  | none =>
    have := List.find?_eq_none.1 hf t hm
    simp at this
  | some a =>
    have h1 := List.find?_some hf
    have h2 := List.mem_of_find?_eq_some hf
    rw [rise_uniq h h2 hm (by simpa using h1)]
theorem find_no_th {id : Int} {L : List Th} (h : hasT id L = false) : findT id L = none := by
  unfold findT
  rw [List.find?_eq_none]
  intro a ha
  simpa using has_no h a ha
theorem rf_has {id : Int} {L : List Th} : 0 ≤ rfI id (marks L) ↔ hasT id L = true := by
  rw [rf_mem, has_iff]
  unfold marks
  constructor
  · rintro ⟨a, ha, e⟩
    obtain ⟨t, ht, rfl⟩ := List.mem_map.1 ha
    exact ⟨t, ht, e⟩
  · rintro ⟨t, ht, e⟩
    exact ⟨mkT t, List.mem_map.2 ⟨t, ht, rfl⟩, e⟩
theorem marks_put {t : Th} {L : List Th} (hr : Rise L) (hl : L.length < 200) (h0 : 0 ≤ t.id) (ho : onB t.x t.y = true) (hn : hasT t.id L = false) : rptE t.id t.x t.y (marks L) = 0 ∧ rptS t.id t.x t.y (marks L) = marks (witT t L) := by
  have hf : ¬ 0 ≤ rfI t.id (marks L) := fun h => by rw [rf_has.1 h] at hn; cases hn
  have hE : rptE t.id t.x t.y (marks L) = 0 := by
    unfold rptE
    rw [if_neg (by omega), if_neg (by rw [ho]; simp), if_neg hf, if_neg (by rw [marks_length]; omega)]
  refine ⟨hE, ?_⟩
  unfold rptS
  rw [if_pos hE]
  refine mk_eq ?_ (ins_ids (marks_rise hr) hf) (marks_rise (wit_rise hr))
  refine (insS_perm _ _ _).trans ?_
  unfold witT
  rw [out_no hn]
  exact ((ins_perm t L).map mkT).symm
theorem marks_drop {id : Int} {L : List Th} (hr : Rise L) (hn : hasT id L = true) : rdrE id (marks L) = 0 ∧ rdrS id (marks L) = marks (outT id L) := by
  have hf : 0 ≤ rfI id (marks L) := rf_has.2 hn
  have hE : rdrE id (marks L) = 0 := by unfold rdrE; rw [if_neg (by omega)]
  refine ⟨hE, ?_⟩
  unfold rdrS
  rw [if_neg (by omega)]
  obtain ⟨a, ha, e⟩ := rf_get hf
  obtain ⟨t, ht, rfl⟩ := List.mem_map.1 (List.mem_of_getElem? ha)
  have p1 := delS_perm ha
  have p2 := (out_perm hr ht).map mkT
  rw [show t.id = id from e] at p2
  refine mk_eq ?_ ((marks_rise hr).sublist (delS_sub _ _)) (marks_rise (out_rise hr))
  exact List.Perm.cons_inv (p1.symm.trans p2)
theorem marks_set {t : Th} {L : List Th} (hr : Rise L) (ho : onB t.x t.y = true) (hn : hasT t.id L = true) : rmvE t.id t.x t.y (marks L) = 0 ∧ rmvS t.id t.x t.y (marks L) = marks (witT t L) := by
  have hf : 0 ≤ rfI t.id (marks L) := rf_has.2 hn
  have hE : rmvE t.id t.x t.y (marks L) = 0 := by unfold rmvE; rw [if_neg (by omega), if_neg (by rw [ho]; simp)]
  refine ⟨hE, ?_⟩
  unfold rmvS
  rw [if_pos hE]
  obtain ⟨a, ha, e⟩ := rf_get hf
  obtain ⟨u, hu, rfl⟩ := List.mem_map.1 (List.mem_of_getElem? ha)
  have p1 := setM_perm (x := t.x) (y := t.y) ha
  have e' : u.id = t.id := e
  have p2 := delS_perm ha
  have p3 := (out_perm hr hu).map mkT
  have p4 := List.Perm.cons_inv (p2.symm.trans p3)
  refine mk_eq ?_ (setM_ids (marks_rise hr) _ _ _) (marks_rise (wit_rise hr))
  refine p1.trans ?_
  refine ((p4.cons _)).trans ?_
  have p5 := ((ins_perm t (outT t.id L)).map mkT).symm
  rw [e']
  rw [show (⟨(mkT u).id, t.x, t.y⟩ : Mk) = mkT t by unfold mkT; simp [e']]
  exact p5
def inT_r (r : Rc) (L : List Th) : List Th := L.filter fun t => inB r t.x t.y
theorem marks_in (L : List Th) (r : Rc) : rinL (marks L) r = (inT_r r L).map Th.id := by
  unfold rinL marks inT_r
  induction L with
  | nil => rfl
  | cons a L ih =>
    simp only [List.map_cons, List.filter_cons]
    rw [show inB r (mkT a).x (mkT a).y = inB r a.x a.y from rfl]
    cases inB r a.x a.y
    · exact ih
    · simp only [if_true, List.map_cons, ih]; rfl
/-- the things of these numbers -/
def those (L : List Th) (l : List Int) : List Th := l.map fun i => (findT i L).getD zT
theorem those_sub {L M : List Th} (h : Rise L) (hs : ∀ t ∈ M, t ∈ L) : those L (M.map Th.id) = M := by
  unfold those
  induction M with
  | nil => rfl
  | cons a M ih =>
    simp only [List.map_cons]
    rw [find_mem_th h (hs a List.mem_cons_self), ih (fun t ht => hs t (List.mem_cons_of_mem _ ht))]
    rfl
theorem sorted_keys {L : List Th} (h : Rise L) {ss : List Int} (hp : ss.Perm (L.map Th.id)) : (ss.mergeSort fun x y => decide (x ≤ y)) = L.map Th.id := by
  have e := mergeSort_of_perm_i hp
  have hs : (L.map Th.id).Pairwise (fun a b => decide (a ≤ b) = true) := by
    rw [List.pairwise_map]
    exact h.imp (fun {a b} hab => by simp; omega)
  exact e.trans (List.mergeSort_of_pairwise hs)
/-- what a table may hold -/
structure Good (L : List Th) : Prop where
  rise : Rise L
  len : L.length ≤ 200
  is : ∀ t ∈ L, isT t = true
  fit : ∀ t ∈ L, inT t
theorem Good.nil : Good [] := ⟨.nil, by simp, by simp, by simp⟩
theorem Good.out {L : List Th} (h : Good L) (id : Int) : Good (outT id L) :=
  ⟨out_rise h.rise, Nat.le_trans (out_length id L) h.len, fun t ht => h.is t (out_mem.1 ht).1, fun t ht => h.fit t (out_mem.1 ht).1⟩
theorem Good.set {L : List Th} (h : Good L) {t : Th} (ht : isT t = true) (hf : inT t) (hh : hasT t.id L = true) : Good (witT t L) :=
  ⟨wit_rise h.rise, by rw [wit_length1 h.rise hh]; exact h.len, fun a ha => by rcases wit_mem.1 ha with rfl | ⟨ha, _⟩; exact ht; exact h.is a ha, fun a ha => by rcases wit_mem.1 ha with rfl | ⟨ha, _⟩; exact hf; exact h.fit a ha⟩
theorem Good.put {L : List Th} (h : Good L) {t : Th} (ht : isT t = true) (hf : inT t) (hh : hasT t.id L = false) (hl : L.length < 200) : Good (witT t L) :=
  ⟨wit_rise h.rise, by rw [wit_length0 hh]; omega, fun a ha => by rcases wit_mem.1 ha with rfl | ⟨ha, _⟩; exact ht; exact h.is a ha, fun a ha => by rcases wit_mem.1 ha with rfl | ⟨ha, _⟩; exact hf; exact h.fit a ha⟩
/-- Put's, Set's, Drop's error, and what the table holds behind them -/
def tpE (t : Th) (L : List Th) : Int := if isT t = false ∨ hasT t.id L = true then 11 else if 200 ≤ L.length then 16 else 0
def tpL (t : Th) (L : List Th) : List Th := if tpE t L = 0 then witT t L else L
def tsE (t : Th) (L : List Th) : Int := if isT t = false then 11 else if hasT t.id L = false then 15 else 0
def tsL (t : Th) (L : List Th) : List Th := if tsE t L = 0 then witT t L else L
def tdE (id : Int) (L : List Th) : Int := if hasT id L = false then 15 else 0
def tdL (id : Int) (L : List Th) : List Th := outT id L
theorem isT_parts {t : Th} (h : isT t = true) : 0 ≤ t.id ∧ t.id ≤ 1000000 ∧ onB t.x t.y = true := by
  rw [isT_eq] at h
  simp only [Bool.and_eq_true, decide_eq_true_eq] at h
  obtain ⟨⟨⟨⟨⟨⟨h1, h2⟩, h3⟩, _⟩, _⟩, _⟩, _⟩ := h
  exact ⟨h1, h2, h3⟩
theorem isT_inI {t : Th} (h : isT t = true) : inI t.id := by
  obtain ⟨h1, h2, _⟩ := isT_parts h
  exact ⟨by omega, by omega⟩
theorem tpE_bad {t : Th} {L : List Th} (h : isT t = false) : tpE t L = 11 := by unfold tpE; rw [if_pos (.inl h)]
theorem tpE_has {t : Th} {L : List Th} (h : hasT t.id L = true) : tpE t L = 11 := by unfold tpE; rw [if_pos (.inr h)]
theorem tpE_full {t : Th} {L : List Th} (h1 : isT t = true) (h2 : hasT t.id L = false) (h : 200 ≤ L.length) : tpE t L = 16 := by unfold tpE; rw [if_neg (by simp [h1, h2]), if_pos h]
theorem tpE_ok {t : Th} {L : List Th} (h1 : isT t = true) (h2 : hasT t.id L = false) (h : L.length < 200) : tpE t L = 0 := by unfold tpE; rw [if_neg (by simp [h1, h2]), if_neg (by omega)]
theorem tpL_good {t : Th} {L : List Th} (h : Good L) (hf : inT t) : Good (tpL t L) := by
  unfold tpL
  split
  · rename_i h0
    unfold tpE at h0
    split at h0
    · cases h0
    · rename_i hn
      split at h0
      · cases h0
      · rename_i hl
        have h1 : isT t = true := by cases e : isT t; exact absurd (.inl e) hn; rfl
        have h2 : hasT t.id L = false := by cases e : hasT t.id L; rfl; exact absurd (.inr e) hn
        exact h.put h1 hf h2 (by omega)
  · exact h
theorem tsL_good {t : Th} {L : List Th} (h : Good L) (hf : inT t) : Good (tsL t L) := by
  unfold tsL
  split
  · rename_i h0
    unfold tsE at h0
    split at h0
    · cases h0
    · rename_i hn
      split at h0
      · cases h0
      · rename_i hl
        exact h.set (by simpa using hn) hf (by simpa using hl)
  · exact h
/-- what Of makes of a row -/
def ofT (M : List Th) : List Th := M.foldl (fun L t => tpL t L) []
theorem of_take {M : List Th} {k : Nat} {t : Th} (h : M[k]? = some t) : ofT (M.take (k + 1)) = tpL t (ofT (M.take k)) := by
  unfold ofT
  rw [List.take_add_one, h, Option.toList_some, List.foldl_append]
  rfl
theorem of_good {M : List Th} (h : ∀ t ∈ M, inT t) : Good (ofT M) := by
  unfold ofT
  suffices ∀ (M : List Th) (L : List Th), Good L → (∀ t ∈ M, inT t) → Good (M.foldl (fun L t => tpL t L) L) from this M [] .nil h
  intro M
  induction M with
  | nil => intro L hL _; exact hL
  | cons a M ih => intro L hL hM; exact ih _ (tpL_good hL (hM a List.mem_cons_self)) (fun t ht => hM t (List.mem_cons_of_mem _ ht))
end
section
open Go.RowKit
set_option linter.unusedVariables false
theorem below_set11 {B : Nat} {w w' : World} (h : Below B w w') {g : Nat} (hg : B ≤ g) (v0 v1 v2 v3 v4 v5 v6 v7 v8 v9 v10 : Value) : Below B w (((((((((((w'.setCell ⟨g, 0, none⟩ v0).setCell ⟨g, 1, none⟩ v1).setCell ⟨g, 2, none⟩ v2).setCell ⟨g, 3, none⟩ v3).setCell ⟨g, 4, none⟩ v4).setCell ⟨g, 5, none⟩ v5).setCell ⟨g, 6, none⟩ v6).setCell ⟨g, 7, none⟩ v7).setCell ⟨g, 8, none⟩ v8).setCell ⟨g, 9, none⟩ v9).setCell ⟨g, 10, none⟩ v10) :=
  ((((((((((h.setCell hg v0).setCell hg v1).setCell hg v2).setCell hg v3).setCell hg v4).setCell hg v5).setCell hg v6).setCell hg v7).setCell hg v8).setCell hg v9).setCell hg v10
abbrev tabO (ty : TypeId) (bm qb : Nat) : Obj := .cells #[.map (some bm), .pointer (some ⟨qb, 0, none⟩)] ty (0, 0)
/-- the table at tb, made behind W0: its map at bm, its tree at qb with the slice v; it holds L -/
structure TB0 (W0 W : World) (tb bm qb : Nat) (v : Value) (L : List Th) : Prop where
  ex : ∃ ty, W.heap[tb]? = some (tabO ty bm qb)
  map : OM W bm L
  tree : TS W W0.heap.size qb v (marks L)
  good : Good L
  lo : W0.heap.size ≤ tb
  lom : W0.heap.size ≤ bm
  ne1 : tb ∉ qb :: ob v
  ne2 : bm ∉ qb :: ob v
  below : Below W0.heap.size W0 W
  masks : Masks W0
theorem TB0.at_ {W0 W : World} {tb bm qb : Nat} {v : Value} {L : List Th} (h : TB0 W0 W tb bm qb v L) : W.heap[tb]? = some (tabO h.ex.choose bm qb) := h.ex.choose_spec
/-- X: all its blocks -/
def TB (W0 W : World) (tb : Nat) (L : List Th) (X : List Nat) : Prop := ∃ bm qb v, TB0 W0 W tb bm qb v L ∧ X = tb :: bm :: qb :: ob v
/-- what a change leaves: the table holds L, beyond its own blocks nothing has turned -/
def TBT (W0 w : World) (tb : Nat) (L : List Th) (X : List Nat) (w' : World) : Prop := ∃ X', TB W0 w' tb L X' ∧ Off X w w' ∧ ∀ k, k ∈ X' → k ∈ X ∨ w.heap.size ≤ k
theorem TB0.mask {W0 W : World} {tb bm qb : Nat} {v : Value} {L : List Th} (h : TB0 W0 W tb bm qb v L) : Masks W := h.masks.below h.below
theorem TB0.zero {W0 W : World} {tb bm qb : Nat} {v : Value} {L : List Th} (h : TB0 W0 W tb bm qb v L) : 0 < W0.heap.size := World.block_lt_of_cell? W0 ⟨0, 0, none⟩ h.masks.1
theorem TB0.len9 {W0 W : World} {tb bm qb : Nat} {v : Value} {L : List Th} (h : TB0 W0 W tb bm qb v L) : (marks L).length ≤ 999 := by rw [marks_length]; have := h.good.len; omega
theorem TB0.later {W0 W W' : World} {tb bm qb : Nat} {v : Value} {L : List Th} (h : TB0 W0 W tb bm qb v L) (hb : Below W.heap.size W W') : TB0 W0 W' tb bm qb v L :=
  ⟨⟨_, var_on hb h.at_ (lt_of_at h.at_)⟩, h.map.later hb, h.tree.later hb, h.good, h.lo, h.lom, h.ne1, h.ne2, h.below.trans (hb.mono h.below.size), h.masks⟩
theorem TB0.lt {W0 W : World} {tb bm qb : Nat} {v : Value} {L : List Th} (h : TB0 W0 W tb bm qb v L) : ∀ k, k ∈ tb :: bm :: qb :: ob v → W0.heap.size ≤ k ∧ k < W.heap.size := by
  intro k hk
  rcases List.mem_cons.1 hk with rfl | hk
  · exact ⟨h.lo, lt_of_at h.at_⟩
  · rcases List.mem_cons.1 hk with rfl | hk
    · exact ⟨h.lom, h.map.lt⟩
    · exact h.tree.lt k hk
theorem TB0.off {W0 W W' : World} {tb bm qb : Nat} {v : Value} {L : List Th} {Y : List Nat} (h : TB0 W0 W tb bm qb v L) (ho : Off Y W W') (hx : ∀ k, k ∈ tb :: bm :: qb :: ob v → k ∉ Y) (hy : ∀ k, k ∈ Y → W0.heap.size ≤ k) : TB0 W0 W' tb bm qb v L :=
  ⟨⟨_, at_off h.at_ ho (hx _ (by simp))⟩, h.map.off ho (hx _ (by simp)), h.tree.off ho (fun k hk => hx k (List.mem_cons_of_mem _ (List.mem_cons_of_mem _ hk))), h.good, h.lo, h.lom, h.ne1, h.ne2, h.below.trans (ho.below h.below.size hy), h.masks⟩
theorem TB.later {W0 W W' : World} {tb : Nat} {L : List Th} {X : List Nat} (h : TB W0 W tb L X) (hb : Below W.heap.size W W') : TB W0 W' tb L X := by
  obtain ⟨bm, qb, v, h1, h2⟩ := h
  exact ⟨bm, qb, v, h1.later hb, h2⟩
theorem TB.lt {W0 W : World} {tb : Nat} {L : List Th} {X : List Nat} (h : TB W0 W tb L X) : ∀ k, k ∈ X → W0.heap.size ≤ k ∧ k < W.heap.size := by
  obtain ⟨bm, qb, v, h1, rfl⟩ := h
  exact h1.lt
theorem TB.off {W0 W W' : World} {tb : Nat} {L : List Th} {X Y : List Nat} (h : TB W0 W tb L X) (ho : Off Y W W') (hx : ∀ k, k ∈ X → k ∉ Y) (hy : ∀ k, k ∈ Y → W0.heap.size ≤ k) : TB W0 W' tb L X := by
  obtain ⟨bm, qb, v, h1, rfl⟩ := h
  exact ⟨bm, qb, v, h1.off ho hx hy, rfl⟩
theorem TB.good {W0 W : World} {tb : Nat} {L : List Th} {X : List Nat} (h : TB W0 W tb L X) : Good L := by
  obtain ⟨bm, qb, v, h1, h2⟩ := h
  exact h1.good
theorem TB.below {W0 W : World} {tb : Nat} {L : List Th} {X : List Nat} (h : TB W0 W tb L X) : Below W0.heap.size W0 W := by
  obtain ⟨bm, qb, v, h1, h2⟩ := h
  exact h1.below
theorem TB.mask {W0 W : World} {tb : Nat} {L : List Th} {X : List Nat} (h : TB W0 W tb L X) : Masks W := by
  obtain ⟨bm, qb, v, h1, h2⟩ := h
  exact h1.mask
theorem TBT.below {W0 w w' : World} {tb : Nat} {L L' : List Th} {X : List Nat} (h : TB W0 w tb L X) (ht : TBT W0 w tb L' X w') : Below W0.heap.size W0 w' := by
  obtain ⟨X', h1, _⟩ := ht
  exact h1.below
theorem TS.base {W : World} {b b' tb : Nat} {v : Value} {L : List Mk} (h : TS W b tb v L) (hb : b' ≤ b) : TS W b' tb v L := by
  obtain ⟨S, h1, h2⟩ := h
  exact ⟨S, ⟨h1.at_, h1.own.mono hb, h1.ne, Nat.le_trans hb h1.lo⟩, h2⟩
/-- a table that was made behind W1, itself behind W0 -/
theorem TB.base {W0 W1 W : World} {tb : Nat} {L : List Th} {X : List Nat} (h : TB W1 W tb L X) (hb : Below W0.heap.size W0 W1) (hM : Masks W0) : TB W0 W tb L X := by
  obtain ⟨bm, qb, v, h1, h2⟩ := h
  have hs := hb.size
  exact ⟨bm, qb, v, ⟨h1.ex, h1.map, h1.tree.base hs, h1.good, Nat.le_trans hs h1.lo, Nat.le_trans hs h1.lom, h1.ne1, h1.ne2, hb.trans (h1.below.mono hs), hM⟩, h2⟩
theorem tb_has {W0 w : World} {tb : Nat} {L : List Th} {X : List Nat} (h : TB W0 w tb L X) {id : Int} (hi : inI id) {q : Bool} (hq : Hid (hasT id L = q)) :
    Calls Tryz.prog 68 #[.pointer (some ⟨tb, 0, none⟩), .int .i64 id] w fun e w' => e = .returned (.bool q) ∧ Below w.heap.size w w' := by
  obtain ⟨bm, qb, v, h, rfl⟩ := h
  obtain ⟨t, ht⟩ : ∃ t, Hid ((findT id L).getD zT = t) := ⟨_, rfl⟩
  have HM := hid h.map
  have c := cells_at h.at_
  clear h
  go_enter Tryz.func68, Tryz.ntmps68
  go_wp2_with (at_lookup; refine wp_look rfl _ _ rfl rfl HM.out rfl hi ht hq ?_)
  go_ret
  exact ⟨rfl, below1 _ t.o⟩
theorem tb_len {W0 w : World} {tb : Nat} {L : List Th} {X : List Nat} (h : TB W0 w tb L X) {n : Nat} (hn : Hid (L.length = n)) :
    Calls Tryz.prog 28 #[.pointer (some ⟨tb, 0, none⟩)] w fun e w' => e = .returned (.int .i64 (n : Nat)) ∧ w' = w := by
  obtain ⟨bm, qb, v, h, rfl⟩ := h
  have HM := hid h.map
  have c := cells_at h.at_
  clear h
  go_enter Tryz.func28, Tryz.ntmps28
  go_wp2_with (at_len; refine wp_len rfl _ rfl rfl HM.out hn ?_)
  go_ret
  exact ⟨rfl, rfl⟩
set_option maxHeartbeats 1000000 in
theorem tb_get {W0 w : World} {tb : Nat} {L : List Th} {X : List Nat} (h : TB W0 w tb L X) {id : Int} (hi : inI id) {t : Th} {q : Bool} (ht : Hid ((findT id L).getD zT = t)) (hq : Hid (hasT id L = q)) :
    Calls Tryz.prog 47 #[.pointer (some ⟨tb, 0, none⟩), .int .i64 id] w fun e w' => e = .returned (.tuple #[t.v, .bool q]) ∧ Below w.heap.size w w' := by
  obtain ⟨bm, qb, v, h, rfl⟩ := h
  obtain ⟨W1, hW1⟩ : ∃ W1, w.alloc zT.o = W1 := ⟨_, rfl⟩
  have hB1 : Below w.heap.size w W1 := by rw [← hW1]; exact below1 _ _
  have HM := hid (h.map.later hB1)
  have K0 := hid (show W1.heap[w.heap.size]? = some zT.o by rw [← hW1]; exact new_at _ _ _ rfl)
  have c := cells_at (var_on hB1 h.at_ (lt_of_at h.at_))
  clear h
  go_enter Tryz.func47, Tryz.ntmps47
  obtain ⟨Q, hQ0⟩ : ∃ Q, bodyPost Tryz.prog Tryz.f47 (fun y w' => y = .returned (.tuple #[t.v, .bool q]) ∧ Below w.heap.size w w') = Q := ⟨_, rfl⟩
  rw [hQ0]
  have HQ := hid hQ0
  clear hQ0
  go_upto_region 1 with fail
  unfold Th.o zT zF at hW1
  simp only at hW1
  rw [hW1]
  clear hW1
  have c0 := cells_at K0.out
  have l0 := at_lt K0.out
  go_wp2_with (at_lookup; refine wp_look rfl _ _ rfl rfl HM.out rfl hi ht hq ?_)
  have hq0 := HQ.out
  subst hq0
  exact bodyPost_ret (v := .tuple #[t.v, .bool q]) (by simp [results, Tryz.results47, go_sem, c0, l0]) rfl ⟨rfl, (below_set11 hB1 (by omega) _ _ _ _ _ _ _ _ _ _ _).alloc (by simp; omega) _⟩
theorem tb_new {w : World} (hM : Masks w) : Calls Tryz.prog 19 #[] w fun e w' => ∃ tb X, e = .returned (.pointer (some ⟨tb, 0, none⟩)) ∧ TB w w' tb [] X := by
  obtain ⟨W1, hW1⟩ : ∃ W1, w.alloc (.map #[] 0) = W1 := ⟨_, rfl⟩
  have hB1 : Below w.heap.size w W1 := by rw [← hW1]; exact below1 _ _
  have hO : OM W1 w.heap.size [] := by rw [← hW1]; exact om_made w
  have HS : W1.heap.size = w.heap.size + 1 := by rw [← hW1]; simp
  have HO := hid hO
  have C := ts_new W1
  have hmm := @run_makeMap Tryz.prog
  clear hO
  go_enter Tryz.func19, Tryz.ntmps19
  go_wp2_with fail
  clear hW1
  refine C.mono ?_
  rintro x W2 ⟨rfl, hT, hb2⟩
  rw [HS] at hT
  have HT := hid hT
  have hB2 := below_on hB1 hb2
  have HO2 := hid (HO.out.later hb2)
  have hlt := hid hT.lt
  have hs := hb2.size
  clear hT C
  go_wp2_with fail
  go_ret
  refine ⟨_, _, rfl, w.heap.size, w.heap.size + 1, .slice none 0 0, ⟨⟨_, new_at _ _ _ rfl⟩, HO2.out.later (below1 _ _), ?_, .nil, by have := hB2.size; omega, Nat.le_refl _, ?_, ?_, hB2.alloc (by omega) _, hM⟩, rfl⟩
  · exact (HT.out.later (below1 _ _)).base (Nat.le_succ _)
  · intro hm
    have := (hlt.out _ hm).2
    omega
  · intro hm
    have := (hlt.out _ hm).1
    omega
end
section
open Go.RowKit Go.Maps
set_option linter.unusedVariables false
theorem Tryz.infoT : (Tryz.prog.info? 54).map (fun i => (i.zero, i.size, i.bytes)) = some (some zT.v, 11, 120) := by kernel_rfl
theorem cs_one (t : Th) : ∀ u ∈ t.cs, u.oneCell' = true := by
  intro u hu
  simp [Th.cs] at hu
  rcases hu with rfl | rfl | rfl | rfl | rfl | rfl | rfl | rfl | rfl | rfl | rfl <;> rfl
theorem those_length (L : List Th) (l : List Int) : (those L l).length = l.length := by simp [those]
theorem those_take (L : List Th) {l : List Int} {k : Nat} {i : Int} (h : l[k]? = some i) : those L (l.take (k + 1)) = those L (l.take k) ++ [(findT i L).getD zT] := by
  unfold those
  rw [List.take_add_one, h, Option.toList_some, List.map_append]
  rfl
set_option maxHeartbeats 1000000 in
theorem tb_those {W0 w : World} {tb : Nat} {L : List Th} {X : List Nat} (h : TB W0 w tb L X) {p : Option Addr} {cap : Nat} {l : List Int} (hr : RowG cI 1 w p l) {n : Nat} (hn : Hid (l.length = n)) (hl : n ≤ 999) (hin : Hid (∀ i ∈ l, inI i)) :
    Calls Tryz.prog 39 #[.pointer (some ⟨tb, 0, none⟩), .slice p n cap] w fun e w' => ∃ p' cap', e = .returned (.slice p' n cap') ∧ w'.ownsRow w.heap.size 54 11 (.slice p' n cap') n (flatT (those L l)) ∧ Below w.heap.size w w' := by
  obtain ⟨bm, qb, v, h, rfl⟩ := h
  obtain ⟨i0, hi, hz0, hz1, hz2⟩ := info_parts Tryz.infoT
  have HR := hid hr
  have HT := hid h
  clear h hr
  go_enter Tryz.func39, Tryz.ntmps39
  go_wp2_with (at_make; refine wpList_make_own _ rfl _ _ 29 rfl w.heap.size 54 i0 zT.v 11 Tryz.underlying29 hi hz0 hz1 .i64 .i64 _ n rfl rfl rfl (by rw [hz2]; omega) (by unfold maxLen; omega) (Nat.le_refl _) ?_; intro w0 hown0 hgrow0)
  have hB0 : Below w.heap.size w w0 := (Below.refl _ w).grown hgrow0 (Nat.le_refl _) (fun k hk => by cases hk)
  clear hgrow0
  go_loopw [13, 5] (fun s13 s5 wr => ∃ k : Nat, k ≤ n ∧ s13 = .int .i64 (k : Nat) ∧ wr.ownsRow w.heap.size 54 11 s5 k (flatT (those L (l.take k))) ∧ Below w.heap.size w wr) (fun s13 _ _ => n - (intOf s13).toNat)
  case atStart => exact ⟨0, by omega, rfl, hown0, hB0⟩
  case round =>
    obtain ⟨k, hk, rfl, ho, hb⟩ := hrel
    clear hown0 hB0
    obtain ⟨p5, c5, rfl⟩ := owns_slice ho
    by_cases hlt : k < n
    · have hlt' : (k : Int) < (n : Int) := by omega
      obtain ⟨i, hik⟩ := get_some l k (by rw [hn.out]; exact hlt)
      have HI := hid hik
      have hii := hid (hin.out i (List.mem_of_getElem? hik))
      obtain ⟨b, off, rfl, hc⟩ := int_at (HR.out.later hb) hik
      obtain ⟨t, ht⟩ : ∃ t, Hid ((findT i L).getD zT = t) := ⟨_, rfl⟩
      have hT2 := HT.out.later hb
      have HM := hid hT2.map
      have c := cells_at hT2.at_
      clear hik hT2
      have hs := hb.size
      go_wp2_with (first
        | (at_lookup; refine wp_get rfl _ _ rfl rfl HM.out rfl hii.out ht ?_)
        | (at_builtin; refine wpList_append_lies _ rfl _ _ 29 rfl w.heap.size 54 i0 zT.v 11 120 Tryz.underlying29 hi hz0 hz1 hz2 rfl (by decide) _ _ _ rfl (ho.alloc _) ⟨wr.heap.size, 0, none⟩ 1 1 t.cs rfl rfl (World.news_of_block (heap_alloc_new _ _)) (cs_one t) (by decide) (by unfold maxLen; omega) (by omega) (by simp; omega) (wr.heap.size + 1) (by simp) ?_
           intro g cap' w5 hown hgrow hat hg5))
      go_roundw
      case rel =>
        refine ⟨k + 1, by omega, by go_num, ?_, ?_⟩
        · rw [those_take L HI.out, flatT_append, flatT_one, ht.out]; exact hown
        · exact (hb.alloc hs _).grown hgrow (by simp; omega) (fun k hk => (ho.lt k hk).1)
      case measure => simp [intOf]; omega
    · obtain rfl : k = n := by omega
      have hlt' : ¬ (k : Int) < (k : Int) := by omega
      go_wp2_with fail
      go_ret
      refine ⟨_, _, rfl, ?_, hb⟩
      rw [List.take_of_length_le (by rw [hn.out]; omega)] at ho
      exact ho
theorem mem_inT {r : Rc} {L : List Th} {t : Th} (h : t ∈ inT_r r L) : t ∈ L := (List.mem_filter.1 h).1
theorem inI_of {L M : List Th} (h : Good L) (hs : ∀ t ∈ M, t ∈ L) : ∀ i ∈ M.map Th.id, inI i := by
  intro i hi
  obtain ⟨t, ht, rfl⟩ := List.mem_map.1 hi
  exact isT_inI (h.is t (hs t ht))
theorem tb0_in {W0 w : World} {tb bm qb : Nat} {v : Value} {L : List Th} (h : TB0 W0 w tb bm qb v L) (r0 r1 r2 r3 : Int) {I : List Int} {m : Nat} (e1 : Hid (rinL (marks L) ⟨r0, r1, r2, r3⟩ = I)) (e3 : Hid (I.length = m)) :
    Calls Tryz.prog 42 #[.pointer (some ⟨qb, 0, none⟩), rc r0 r1 r2 r3] w fun e w' => ∃ p cap, e = .returned (.slice p m cap) ∧ w'.ownsRow w.heap.size 3 1 (.slice p m cap) m (flatG cI I) ∧ Below w.heap.size w w' ∧ TB0 W0 w' tb bm qb v L := by
  have C := ts_in h.tree h.len9 h.mask r0 r1 r2 r3
  rw [e1.out, e3.out] at C
  refine C.mono ?_
  rintro e w' ⟨p, cap, rfl, ho, hb⟩
  exact ⟨p, cap, rfl, ho, hb, h.later hb⟩
theorem tb0_those {W0 w : World} {tb bm qb : Nat} {v : Value} {L : List Th} (h : TB0 W0 w tb bm qb v L) {p : Option Addr} {cap base : Nat} {l : List Int} {n : Nat} (hr : w.ownsRow base 3 1 (.slice p n cap) n (flatG cI l)) (hn : Hid (l.length = n)) (hl : n ≤ 999) (hin : Hid (∀ i ∈ l, inI i)) {M : List Th} (hM : Hid (those L l = M)) :
    Calls Tryz.prog 39 #[.pointer (some ⟨tb, 0, none⟩), .slice p n cap] w fun e w' => ∃ p' cap', e = .returned (.slice p' n cap') ∧ w'.ownsRow w.heap.size 54 11 (.slice p' n cap') n (flatT M) ∧ Below w.heap.size w w' := by
  rw [← hM.out]
  exact tb_those ⟨bm, qb, v, h, rfl⟩ (row_own cI_z hr hn.out.symm) hn hl hin
set_option maxHeartbeats 1000000 in
theorem tb_in {W0 w : World} {tb : Nat} {L : List Th} {X : List Nat} (h : TB W0 w tb L X) (r0 r1 r2 r3 : Int) {M : List Th} (hM : Hid (inT_r ⟨r0, r1, r2, r3⟩ L = M)) :
    Calls Tryz.prog 26 #[.pointer (some ⟨tb, 0, none⟩), rc r0 r1 r2 r3] w fun e w' => ∃ p cap, e = .returned (.slice p M.length cap) ∧ w'.ownsRow w.heap.size 54 11 (.slice p M.length cap) M.length (flatT M) ∧ Below w.heap.size w w' := by
  obtain ⟨W1, hW1⟩ : ∃ W1, w.alloc (.cells #[.int .i64 r0, .int .i64 r1, .int .i64 r2, .int .i64 r3] 25) = W1 := ⟨_, rfl⟩
  have hB1 : Below w.heap.size w W1 := by rw [← hW1]; exact below1 _ _
  have K1 := hid (show W1.heap[w.heap.size]? = some (.cells #[.int .i64 r0, .int .i64 r1, .int .i64 r2, .int .i64 r3] 25 (0, 0)) by rw [← hW1]; exact new_at _ _ _ rfl)
  have H1 := h.later hB1
  obtain ⟨n, hn⟩ : ∃ n, Hid (L.length = n) := ⟨_, rfl⟩
  have C1 := tb_len H1 hn
  have hG := hid h.good
  clear h
  by_cases h0 : n = 0
  · subst h0
    have hL : L = [] := List.eq_nil_of_length_eq_zero hn.out
    have hM0 : M = [] := by rw [← hM.out, hL]; rfl
    subst hM0
    go_enter Tryz.func26, Tryz.ntmps26
    go_wp2_with fail
    refine C1.mono ?_
    rintro x w2 ⟨rfl, hw2⟩
    rw [hw2]
    go_wp2_with fail
    go_ret
    exact ⟨none, 0, rfl, World.ownsRow_nil _ _ _ _, hB1⟩
  · have hn0 : ((n : Int) == 0) = false := by simpa using h0
    have hMs : Hid (∀ t ∈ M, t ∈ L) := fun t ht => by rw [← hM.out] at ht; exact mem_inT ht
    have hMl : M.length ≤ 200 := by
      rw [← hM.out]
      exact Nat.le_trans (List.length_filter_le _ _) hG.out.len
    have e1 := hid (show rinL (marks L) ⟨r0, r1, r2, r3⟩ = M.map Th.id by rw [marks_in, hM.out])
    have e2 := hid (show those L (M.map Th.id) = M from those_sub hG.out.rise hMs.out)
    have e3 := hid (show (M.map Th.id).length = M.length by simp)
    have e4 := hid (inI_of hG.out hMs.out)
    obtain ⟨I, hI⟩ : ∃ I, M.map Th.id = I := ⟨_, rfl⟩
    rw [hI] at e1 e2 e3 e4
    obtain ⟨m, hm⟩ : ∃ m, M.length = m := ⟨_, rfl⟩
    rw [hm] at e3 hMl ⊢
    have HMm := hid hm
    clear hI hm h0
    obtain ⟨bm, qb, v, H0, hX⟩ := H1
    subst hX
    have cT := cells_at H0.at_
    have cR := cells_at K1.out
    have T1 := hid H0
    clear H0
    go_enter Tryz.func26, Tryz.ntmps26
    go_wp2_with fail
    refine C1.mono ?_
    rintro x w2 ⟨rfl, hw2⟩
    rw [hw2]
    clear hw2 w2 hW1
    go_wp2_with fail
    obtain ⟨ct, -⟩ := cT
    obtain ⟨cr, -⟩ := cR
    have t1 : W1.cell? ⟨tb, 1, none⟩ = some (.pointer (some ⟨qb, 0, none⟩)) := ct 1
    have q0 : W1.cell? ⟨w.heap.size, 0, none⟩ = some (.int .i64 r0) := cr 0
    have q1 : W1.cell? ⟨w.heap.size, 1, none⟩ = some (.int .i64 r1) := cr 1
    have q2 : W1.cell? ⟨w.heap.size, 2, none⟩ = some (.int .i64 r2) := cr 2
    have q3 : W1.cell? ⟨w.heap.size, 3, none⟩ = some (.int .i64 r3) := cr 3
    clear ct cr
    go_region_held3 (fun w' => w'.cell? ⟨tb, 1, none⟩ = some (.pointer (some ⟨qb, 0, none⟩)) ∧ w'.cell? ⟨w.heap.size, 0, none⟩ = some (.int .i64 r0) ∧ w'.cell? ⟨w.heap.size, 1, none⟩ = some (.int .i64 r1) ∧ w'.cell? ⟨w.heap.size, 2, none⟩ = some (.int .i64 r2) ∧ w'.cell? ⟨w.heap.size, 3, none⟩ = some (.int .i64 r3))
      (first | go_keep | (go_split_ands; refine ⟨?_, ?_, ?_, ?_, ?_⟩ <;> exact cell_below hbK (by assumption)))
      (first
        | (go_at_call 42; with_reducible refine (tb0_in (T1.out.later (by first | exact Below.refl _ _ | exact (Below.refl _ _).drew)) r0 r1 r2 r3 e1 e3).mono ?_; rintro z W2 ⟨p2, c2, rfl, hown2, hbK, T2⟩
           have hB2 : Below w.heap.size w W2 := (by first | exact below_on hB1 hbK | exact below_on hB1.drew hbK))
        | (go_at_call 39; with_reducible refine (tb0_those T2 hown2 e3 (by omega) e4 e2).mono ?_; rintro z W3 ⟨p3, c3, rfl, hown3, hbK⟩
           have hB3 := below_on hB2 hbK
           have hs2 := hB2.size))
    all_goals
      go_wp2_with fail
      go_ret
      exact ⟨p3, c3, rfl, hown3.mono hs2, hB3⟩
theorem cellR_in {c : Int} (h : isC c = false) (L : List Th) : inT_r (cellR c) L = [] := by
  unfold inT_r
  rw [List.filter_eq_nil_iff]
  intro t _
  have e : cellR c = ⟨0, 0, 0, 0⟩ := by simp [cellR, h]
  rw [e]
  intro hb
  simp only [inB, Bool.and_eq_true, decide_eq_true_eq] at hb
  omega
theorem tb_cell {W0 w : World} {tb : Nat} {L : List Th} {X : List Nat} (h : TB W0 w tb L X) (c : Int) {M : List Th} (hM : Hid (inT_r (cellR c) L = M)) :
    Calls Tryz.prog 115 #[.pointer (some ⟨tb, 0, none⟩), .int .i64 c] w fun e w' => ∃ p cap, e = .returned (.slice p M.length cap) ∧ w'.ownsRow w.heap.size 54 11 (.slice p M.length cap) M.length (flatT M) ∧ Below w.heap.size w w' := by
  have C1 := cells_rect w h.mask c
  have H := hid h
  clear h
  obtain ⟨q, hq⟩ : ∃ q, Hid (isC c = q) := ⟨_, rfl⟩
  rw [hq.out] at C1
  obtain ⟨⟨r0, r1, r2, r3⟩, hr⟩ : ∃ r, cellR c = r := ⟨_, rfl⟩
  have hM2 := hid hM.out
  rw [hr] at C1 hM2
  have HR := hid hr
  clear hr
  go_enter Tryz.func115, Tryz.ntmps115
  go_wp2_with fail
  refine C1.mono ?_
  rintro x w2 ⟨rfl, hb2⟩
  have hs := hb2.size
  have hB3 := hb2.alloc hs (.cells #[.int .i64 r0, .int .i64 r1, .int .i64 r2, .int .i64 r3] 25)
  have C2 := tb_in (H.out.later hB3) r0 r1 r2 r3 hM2
  cases q
  · have hM0 : M = [] := by rw [← hM.out]; exact cellR_in hq.out L
    subst hM0
    clear C2
    go_wp2_with fail
    go_ret
    exact ⟨none, 0, rfl, World.ownsRow_nil _ _ _ _, hB3⟩
  · go_wp2_with fail
    refine C2.mono ?_
    rintro x w4 ⟨p4, c4, rfl, hown4, hb4⟩
    go_wp2_with fail
    go_ret
    exact ⟨p4, c4, rfl, hown4.mono (by simp; omega), below_on hB3 hb4⟩
theorem flat_encZ (l : List Int) : l.map encZ = flatG cI l := by
  induction l with
  | nil => rfl
  | cons a l ih => rw [List.map_cons, ih]; rfl
theorem tb_all {W0 w : World} {tb : Nat} {L : List Th} {X : List Nat} (h : TB W0 w tb L X) :
    Calls Tryz.prog 25 #[.pointer (some ⟨tb, 0, none⟩)] w fun e w' => ∃ p cap, e = .returned (.slice p L.length cap) ∧ w'.ownsRow w.heap.size 54 11 (.slice p L.length cap) L.length (flatT L) ∧ Below w.heap.size w w' := by
  have hG := hid h.good
  obtain ⟨bm, qb, v, h, rfl⟩ := h
  have CK := Tryz.maps_Keys (some bm) w
  have CS := Tryz.slices_Sorted bm L.length (DM L) RV w h.map (by rw [DM_size]; have := hG.out.len; unfold maxLen; omega) (by rw [DM_size]; have := hG.out.len; omega)
  have c := cells_at h.at_
  have H := hid h
  have hl := hG.out.len
  have e2 := hid (show those L (L.map Th.id) = L from those_sub hG.out.rise (fun t ht => ht))
  have e4 := hid (inI_of hG.out (fun t ht => ht))
  obtain ⟨n, hn⟩ : ∃ n, Hid (L.length = n) := ⟨_, rfl⟩
  have e3 := hid (show (L.map Th.id).length = n by rw [List.length_map]; exact hn.out)
  rw [hn.out] at hl ⊢
  clear h
  go_enter Tryz.func25, Tryz.ntmps25
  go_wp2_with fail
  refine CK.mono ?_
  rintro x w1 ⟨rfl, rfl⟩
  go_wp2_with fail
  refine CS.mono ?_
  rintro x w2 ⟨v2, ss, rfl, hp, hown, hb⟩
  have hln : ss.length = n := by rw [hp.length_eq, DM_keys]; exact e3.out
  rw [sorted_keys hG.out.rise (by rw [← DM_keys]; exact hp), flat_encZ, hln] at hown
  clear hp CK CS hln
  obtain ⟨p2, c2, rfl⟩ := owns_slice hown
  have C3 := tb_those ⟨_, _, _, H.out.later hb, rfl⟩ (row_own cI_z hown e3.out.symm) e3 (by omega) e4 (cap := c2)
  rw [e2.out] at C3
  go_wp2_with fail
  refine C3.mono ?_
  rintro x w3 ⟨p3, c3, rfl, hown3, hb3⟩
  have hs := hb.size
  go_wp2_with fail
  go_ret
  exact ⟨p3, c3, rfl, hown3.mono hs, below_on hb hb3⟩
end
end Go.Proofs.YtfoncphdbaaedaaGreatDoor
