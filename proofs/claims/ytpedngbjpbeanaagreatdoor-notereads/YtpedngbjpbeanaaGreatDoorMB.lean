/- Cells: plain; contracts of cells and of the reference. -/
import Derived.Test.YtpedngbjpbeanaaGreatDoorMA
import Derived.WalkMore
namespace Go.Proofs.YtpedngbjpbeanaaGreatDoor
section
open Go.RowKit
def cx (c : Nat) : Nat := c % 2 + 2 * (c / 4 % 2)
def cy (c : Nat) : Nat := c / 2 % 2 + 2 * (c / 8 % 2)
theorem gat_cx : ∀ c, c < 16 → gat c = cx c ∧ gat (c / 2) = cy c := by decide +kernel
def isC (c : Int) : Bool := decide (0 ≤ c) && decide (c < 16)
def cellN (c : Nat) : Rc := ⟨(cx c : Nat) * 16, (cy c : Nat) * 16, ((cx c : Nat) + 1) * 16, ((cy c : Nat) + 1) * 16⟩
def cellR (c : Int) : Rc := if isC c then cellN c.toNat else ⟨0, 0, 0, 0⟩
def nearB (a b : Nat) : Bool := decide (a ≤ b + 1) && decide (b ≤ a + 1)
def besN (a b : Nat) : Bool := nearB (cx a) (cx b) && nearB (cy a) (cy b)
def besB (a b : Int) : Bool := isC a && isC b && !(a == b) && besN a.toNat b.toNat
def hasB (r : Rc) (c : Nat) : Bool := !emptyB (meetR (cellN c) r)
def coverL (r : Rc) (n : Nat) : List Nat := (List.range n).filter (hasB r)
def vals (l : List Nat) : List Value := l.map fun c => .int .i64 (c : Nat)
def wvN (x y : Nat) : Nat := x % 2 + 2 * (y % 2) + 4 * (x / 2) + 8 * (y / 2)
theorem weave_wvN : ∀ x, x < 4 → ∀ y, y < 4 → weave x y = wvN x y := by decide +kernel
theorem wvN_lt : ∀ x, x < 4 → ∀ y, y < 4 → wvN x y < 16 := by decide +kernel
theorem cx_wvN : ∀ x, x < 4 → ∀ y, y < 4 → cx (wvN x y) = x ∧ cy (wvN x y) = y := by decide +kernel
theorem wvN_cx : ∀ c, c < 16 → wvN (cx c) (cy c) = c := by decide +kernel
theorem cx_lt (c : Nat) : cx c < 4 := by unfold cx; omega
theorem cy_lt (c : Nat) : cy c < 4 := by unfold cy; omega
def ofN (x y : Int) : Nat := if onB x y then wvN (x / 16).toNat (y / 16).toNat else 0
def ofE (x y : Int) : Int := if onB x y then 0 else 14
theorem coverL_add {r : Rc} {k : Nat} (h : hasB r k = true) : coverL r (k + 1) = coverL r k ++ [k] := by simp [coverL, List.range_succ, h]
theorem coverL_skip {r : Rc} {k : Nat} (h : hasB r k = false) : coverL r (k + 1) = coverL r k := by simp [coverL, List.range_succ, h]
theorem coverL_le (r : Rc) (k : Nat) : (coverL r k).length ≤ k := by
  have := List.length_filter_le (hasB r) (List.range k)
  simpa [coverL] using this
theorem onB_iff (x y : Int) : onB x y = true ↔ (0 ≤ x ∧ x < 64 ∧ 0 ≤ y ∧ y < 64) := by
  simp [onB, inB, Bool.and_eq_true, and_assoc]
theorem isC_nat {c : Int} (h : isC c = true) : ∃ n : Nat, c = n ∧ n < 16 := by
  simp [isC] at h
  exact ⟨c.toNat, by omega, by omega⟩
theorem isC_of {n : Nat} (h : n < 16) : isC (n : Int) = true := by simp [isC]; omega
theorem cellR_of {n : Nat} (h : n < 16) : cellR (n : Int) = cellN n := by simp [cellR, isC_of h]
theorem vals_append (l m : List Nat) : vals (l ++ m) = vals l ++ vals m := by simp [vals]
theorem vals_length (l : List Nat) : (vals l).length = l.length := by simp [vals]
end
section
open Go.RowKit
theorem inB_iff (r : Rc) (x y : Int) : inB r x y = true ↔ (r.x0 ≤ x ∧ x < r.x1 ∧ r.y0 ≤ y ∧ y < r.y1) := by simp [inB, and_assoc]
theorem emptyB_not (r : Rc) : emptyB r = false ↔ (r.x0 < r.x1 ∧ r.y0 < r.y1) := by simp [emptyB]
theorem isC_lt (n : Nat) : isC (n : Int) = decide (n < 16) := by
  by_cases h : n < 16
  · rw [isC_of h]; simp [h]
  · simp [isC]; omega
theorem near_symm (a b : Nat) : nearB a b = nearB b a := by simp only [nearB, Bool.and_comm]
theorem bes_symm (a b : Int) : besB a b = besB b a := by
  simp only [besB, besN, near_symm (cx a.toNat), near_symm (cy a.toNat), Bool.and_comm (isC a)]
  rw [show (a == b) = (b == a) from Bool.beq_comm]
def nbN (x k : Nat) : Nat := ((List.range k).filter fun c : Nat => besB (x : Int) (c : Int)).length
theorem nb_all : ∀ x, x < 16 → nbN x 16 = 3 ∨ nbN x 16 = 5 ∨ nbN x 16 = 8 := by decide +kernel
theorem nb_add {x k : Nat} (h : besB (x : Int) (k : Int) = true) : nbN x (k + 1) = nbN x k + 1 := by simp [nbN, List.range_succ, h]
theorem nb_skip {x k : Nat} (h : besB (x : Int) (k : Int) = false) : nbN x (k + 1) = nbN x k := by simp [nbN, List.range_succ, h]
theorem nb_le (x k : Nat) : nbN x k ≤ k := by
  have := List.length_filter_le (fun c : Nat => besB (x : Int) (c : Int)) (List.range k)
  simpa [nbN] using this
theorem step_all : ∀ a, a < 4 → ∀ b, b < 4 → ∀ c, c < 4 → ∀ d, d < 4 → (!nearB a c || !nearB b d || wvN a b == wvN c d || besB (wvN a b : Nat) (wvN c d : Nat)) = true := by decide +kernel
theorem step_near {x y z u : Int} (h : onB x y = true) (h' : onB z u = true) (h1 : x ≤ z + 1) (h2 : z ≤ x + 1) (h3 : y ≤ u + 1) (h4 : u ≤ y + 1) : ofN x y = ofN z u ∨ besB (ofN x y : Nat) (ofN z u : Nat) = true := by
  have k := (onB_iff _ _).1 h
  have k' := (onB_iff _ _).1 h'
  simp only [ofN, h, h', if_true]
  have e1 : nearB (x / 16).toNat (z / 16).toNat = true := by simp [nearB]; omega
  have e2 : nearB (y / 16).toNat (u / 16).toNat = true := by simp [nearB]; omega
  have := step_all (x / 16).toNat (by omega) (y / 16).toNat (by omega) (z / 16).toNat (by omega) (u / 16).toNat (by omega)
  rw [e1, e2] at this
  simpa using this
theorem ofN_lt (x y : Int) : ofN x y < 16 := by
  unfold ofN
  split
  · rename_i h
    have k := (onB_iff _ _).1 h
    exact wvN_lt _ (by omega) _ (by omega)
  · decide
theorem in_cell {x y : Int} {c : Nat} (hc : c < 16) : inB (cellN c) x y = (onB x y && decide (c = ofN x y)) := by
  have l1 := cx_lt c
  have l2 := cy_lt c
  rw [Bool.eq_iff_iff]
  rw [inB_iff, Bool.and_eq_true, decide_eq_true_eq]
  simp only [cellN]
  constructor
  · rintro ⟨h1, h2, h3, h4⟩
    have ho : onB x y = true := (onB_iff _ _).2 (by omega)
    refine ⟨ho, ?_⟩
    simp only [ofN, ho, if_true]
    rw [show (x / 16).toNat = cx c by omega, show (y / 16).toNat = cy c by omega, wvN_cx c hc]
  · rintro ⟨ho, rfl⟩
    have k := (onB_iff _ _).1 ho
    have e := cx_wvN (x / 16).toNat (by omega) (y / 16).toNat (by omega)
    simp only [ofN, ho, if_true]
    rw [e.1, e.2]
    omega
def ctN (x y : Int) (k : Nat) : Nat := if onB x y && decide (ofN x y < k) then 1 else 0
theorem ct_in {x y : Int} {k : Nat} (hk : k < 16) (h : inB (cellN k) x y = true) : ctN x y (k + 1) = ctN x y k + 1 ∧ k = ofN x y := by
  rw [in_cell hk] at h
  simp only [Bool.and_eq_true, decide_eq_true_eq] at h
  simp [ctN, h.1, ← h.2]
theorem ct_out {x y : Int} {k : Nat} (hk : k < 16) (h : inB (cellN k) x y = false) : ctN x y (k + 1) = ctN x y k := by
  rw [in_cell hk] at h
  cases ho : onB x y
  · simp [ctN, ho]
  · rw [ho] at h
    simp at h
    simp only [ctN, ho, Bool.true_and]
    rw [show decide (ofN x y < k + 1) = decide (ofN x y < k) from decide_eq_decide.2 (by omega)]
theorem ct_le (x y : Int) (k : Nat) : ctN x y k ≤ 1 := by unfold ctN; split <;> omega
theorem ct_all (x y : Int) : ctN x y 16 = if onB x y then 1 else 0 := by simp [ctN, ofN_lt]
theorem hasB_iff (r : Rc) (c : Nat) : hasB r c = true ↔ (max ((cx c : Nat) * 16 : Int) r.x0 < min (((cx c : Nat) + 1) * 16 : Int) r.x1 ∧ max ((cy c : Nat) * 16 : Int) r.y0 < min (((cy c : Nat) + 1) * 16 : Int) r.y1) := by
  have e : hasB r c = !emptyB ⟨max (cellN c).x0 r.x0, max (cellN c).y0 r.y0, min (cellN c).x1 r.x1, min (cellN c).y1 r.y1⟩ := by
    cases h : emptyB ⟨max (cellN c).x0 r.x0, max (cellN c).y0 r.y0, min (cellN c).x1 r.x1, min (cellN c).y1 r.y1⟩
    · simp only [hasB, meetR, h]; simp [h]
    · simp only [hasB, meetR, h]; rfl
  rw [e]
  rw [Bool.not_eq_true', emptyB_not]
  simp only [cellN]
theorem has_in {r : Rc} {x y : Int} (ho : onB x y = true) (h : inB r x y = true) : ofN x y ∈ coverL r 16 := by
  have hc := ofN_lt x y
  have hi : inB (cellN (ofN x y)) x y = true := by rw [in_cell hc, ho]; simp
  simp only [coverL, List.mem_filter, List.mem_range, hasB_iff]
  rw [inB_iff] at h hi
  simp only [cellN] at h hi
  refine ⟨hc, ?_, ?_⟩ <;> omega
def hasL (L : List Nat) (c k : Nat) : Bool := (L.take k).contains c
theorem hasL_step {L : List Nat} {c k d : Nat} (h : L[k]? = some d) : hasL L c (k + 1) = (hasL L c k || (d == c)) := by
  unfold hasL
  rw [List.take_add_one, h]
  simp
  by_cases h : d = c
  · simp [h]
  · have h' : ¬ c = d := fun e => h e.symm
    simp [h, h']
theorem hasL_all {L : List Nat} {c : Nat} : hasL L c L.length = decide (c ∈ L) := by
  simp [hasL]
def boxL (a b c d : Nat) : List Nat := (List.range 16).filter fun k => decide (a ≤ cx k ∧ cx k ≤ b ∧ c ≤ cy k ∧ cy k ≤ d)
theorem box_all : ∀ a, a < 4 → ∀ b, b < 4 → ∀ c, c < 4 → ∀ d, d < 4 → (decide (b < a) || decide (d < c) || (boxL a b c d).length == (b - a + 1) * (d - c + 1)) = true := by decide +kernel
theorem cover_box {x0 y0 x1 y1 : Int} (h0 : 0 ≤ x0) (h1 : x0 < x1) (h2 : x1 ≤ 64) (g0 : 0 ≤ y0) (g1 : y0 < y1) (g2 : y1 ≤ 64) : coverL ⟨x0, y0, x1, y1⟩ 16 = boxL (x0 / 16).toNat ((x1 - 1) / 16).toNat (y0 / 16).toNat ((y1 - 1) / 16).toNat := by
  unfold coverL boxL
  refine List.filter_congr fun c _ => ?_
  rw [Bool.eq_iff_iff, hasB_iff]
  simp only [decide_eq_true_eq]
  omega
theorem cover_count {x0 y0 x1 y1 : Int} (h0 : 0 ≤ x0) (h1 : x0 < x1) (h2 : x1 ≤ 64) (g0 : 0 ≤ y0) (g1 : y0 < y1) (g2 : y1 ≤ 64) : ((coverL ⟨x0, y0, x1, y1⟩ 16).length : Int) = ((x1 - 1) / 16 - x0 / 16 + 1) * ((y1 - 1) / 16 - y0 / 16 + 1) := by
  have h := box_all (x0 / 16).toNat (by omega) ((x1 - 1) / 16).toNat (by omega) (y0 / 16).toNat (by omega) ((y1 - 1) / 16).toNat (by omega)
  rw [show decide (((x1 - 1) / 16).toNat < (x0 / 16).toNat) = false from decide_eq_false (by omega), show decide (((y1 - 1) / 16).toNat < (y0 / 16).toNat) = false from decide_eq_false (by omega)] at h
  rw [cover_box h0 h1 h2 g0 g1 g2, show (boxL (x0 / 16).toNat ((x1 - 1) / 16).toNat (y0 / 16).toNat ((y1 - 1) / 16).toNat).length = _ by simpa using h, Int.natCast_mul]
  congr 1 <;> omega
theorem cover_none (x : Int) : coverL ⟨x, 0, x, 64⟩ 16 = [] := by
  unfold coverL
  refine List.filter_eq_nil_iff.2 fun c _ h => ?_
  rw [hasB_iff] at h
  simp only at h
  omega
theorem cover_rises (r : Rc) (n : Nat) {i : Nat} {c d : Nat} (h : (coverL r n)[i]? = some c) (h' : (coverL r n)[i + 1]? = some d) : c < d := by
  have hp : (coverL r n).Pairwise (· < ·) := List.Pairwise.filter _ List.pairwise_lt_range
  have := List.pairwise_iff_getElem.1 hp
  obtain ⟨a, ha⟩ := List.getElem?_eq_some_iff.1 h
  obtain ⟨b, hb⟩ := List.getElem?_eq_some_iff.1 h'
  rw [← ha, ← hb]
  exact this i (i + 1) a b (by omega)
end
section
open Go.RowKit
theorem cells_is (w : World) (c : Int) : Calls Tryz.prog 59 #[.int .i64 c] w fun e w' => e = .returned (.bool (isC c)) ∧ w' = w := by
  go_enter Tryz.func59, Tryz.ntmps59
  go_wp2 <;> (go_ret; exact ⟨by simp_all [isC] <;> omega, rfl⟩)
theorem ref_is_cell (w : World) (c : Int) : Calls Tryz.prog 22 #[.int .i64 c] w fun e w' => e = .returned (.bool (isC c)) ∧ w' = w := by
  go_enter Tryz.func22, Tryz.ntmps22
  go_wp2 <;> (go_ret; exact ⟨by simp_all [isC] <;> omega, rfl⟩)
theorem cells_of_on (w : World) (hM : Masks w) (x y : Nat) (hx : x < 64) (hy : y < 64) : Calls Tryz.prog 60 #[pt x y] w fun e w' => e = .returned (.tuple #[.int .i64 (wvN (x / 16) (y / 16) : Nat), .int .i64 0]) ∧ Below w.heap.size w w' := by
  have HM : Hid (Masks w) := hM
  clear hM
  have ho : Hid (onB x y = true) := (onB_iff _ _).2 (by omega)
  have e1 : (x : Int).tdiv 16 = ((x / 16 : Nat) : Int) := by rw [Int.tdiv_eq_ediv_of_nonneg (by omega)]; omega
  have e2 : (y : Int).tdiv 16 = ((y / 16 : Nat) : Int) := by rw [Int.tdiv_eq_ediv_of_nonneg (by omega)]; omega
  obtain ⟨a, ha⟩ : ∃ a, x / 16 = a := ⟨_, rfl⟩
  obtain ⟨b, hb⟩ : ∃ b, y / 16 = b := ⟨_, rfl⟩
  have la : a < 4 := by omega
  have lb : b < 4 := by omega
  rw [ha] at e1 ⊢
  rw [hb] at e2 ⊢
  clear ha hb
  have f1 : (a : Int) % 65536 = a := by omega
  have f2 : (b : Int) % 65536 = b := by omega
  go_enter Tryz.func60, Tryz.ntmps60
  go_wp2_with fail
  go_at_call 77
  refine (geom_on _ _ _).mono ?_
  rintro z w1 ⟨rfl, hb1⟩
  rw [ho.out]
  have h2 := var2 (var_on (g := w.heap.size) hb1 (by simp only [heap_alloc]; simp; exact ⟨⟨rfl, rfl⟩, rfl⟩) (by simp))
  have hB : Below w.heap.size w w1 := below_on (below1 _ _) hb1
  clear hb1
  go_wp2_with fail
  go_at_call 78
  refine (weave_at a b (by omega) (by omega) _ (HM.out.below hB)).mono ?_
  rintro z w2 ⟨rfl, rfl⟩
  rw [weave_wvN a la b lb]
  have hw := wvN_lt a la b lb
  obtain ⟨v, hv⟩ : ∃ v, Hid (wvN a b = v) := ⟨_, rfl⟩
  rw [hv.out] at hw ⊢
  go_wp2
  go_ret2
  exact ⟨by rw [hv.out]; rfl, hB⟩
theorem cells_of_off (w : World) (x y : Int) (h : onB x y = false) : Calls Tryz.prog 60 #[pt x y] w fun e w' => e = .returned (.tuple #[.int .i64 0, .int .i64 14]) ∧ Below w.heap.size w w' := by
  have ho : Hid (onB x y = false) := h
  clear h
  go_enter Tryz.func60, Tryz.ntmps60
  go_wp2_with fail
  go_at_call 77
  refine (geom_on _ _ _).mono ?_
  rintro z w1 ⟨rfl, hb1⟩
  rw [ho.out]
  have hB : Below w.heap.size w w1 := below_on (below1 _ _) hb1
  clear hb1
  go_wp2
  go_ret2
  exact ⟨rfl, hB⟩
theorem cells_of (w : World) (hM : Masks w) (x y : Int) : Calls Tryz.prog 60 #[pt x y] w fun e w' => e = .returned (.tuple #[.int .i64 (ofN x y : Nat), .int .i64 (ofE x y)]) ∧ Below w.heap.size w w' := by
  cases h : onB x y
  · simp only [ofN, ofE, h]; exact cells_of_off w x y h
  · have := (onB_iff _ _).1 h
    obtain ⟨a, ha⟩ : ∃ a : Nat, x = a := ⟨x.toNat, by omega⟩
    obtain ⟨b, hb⟩ : ∃ b : Nat, y = b := ⟨y.toNat, by omega⟩
    subst ha hb
    have e1 : ((a : Int) / 16).toNat = a / 16 := by omega
    have e2 : ((b : Int) / 16).toNat = b / 16 := by omega
    simp only [ofN, ofE, h, e1, e2]; exact cells_of_on w hM a b (by omega) (by omega)
end
section
open Go.RowKit
set_option linter.unusedVariables false
set_option linter.unusedSimpArgs false
def RowC (w : World) (l : List Nat) : Ending → World → Prop := fun e w' => ∃ v, e = .returned v ∧ w'.ownsRow w.heap.size 3 1 v l.length (vals l) ∧ Below w.heap.size w w'
theorem Tryz.info3 : (Tryz.prog.info? 3).map (fun i => (i.zero, i.size, i.bytes)) = some (some (.int .i64 0), 1, 8) := by kernel_rfl
theorem owns_on {base : Nat} {e : TypeId} {size : Nat} {v : Value} {n : Nat} {xs : List Value} {W W' : World} (h : W.ownsRow base e size v n xs) (hb : Below W.heap.size W W') : W'.ownsRow base e size v n xs :=
  h.kept (row := none) ⟨hb.os, hb.tape, hb.output, hb.size, fun k hk _ => hb.block k hk⟩ (by cases hv : v.ownBlock <;> simp)
theorem ref_cell_on (w : World) (x y : Nat) (hx : x < 64) (hy : y < 64) : Calls Tryz.prog 25 #[pt x y] w fun e w' => e = .returned (.tuple #[.int .i64 (wvN (x / 16) (y / 16) : Nat), .int .i64 0]) ∧ Below w.heap.size w w' := by
  have ho : Hid (onB x y = true) := (onB_iff _ _).2 (by omega)
  have e1 : (x : Int).tdiv 16 = ((x / 16 : Nat) : Int) := by rw [Int.tdiv_eq_ediv_of_nonneg (by omega)]; omega
  have e2 : (y : Int).tdiv 16 = ((y / 16 : Nat) : Int) := by rw [Int.tdiv_eq_ediv_of_nonneg (by omega)]; omega
  obtain ⟨a, ha⟩ : ∃ a, x / 16 = a := ⟨_, rfl⟩
  obtain ⟨b, hb⟩ : ∃ b, y / 16 = b := ⟨_, rfl⟩
  have la : a < 4 := by omega
  have lb : b < 4 := by omega
  rw [ha] at e1 ⊢
  rw [hb] at e2 ⊢
  clear ha hb
  have f1 : (a : Int) % 65536 = a := by omega
  have f2 : (b : Int) % 65536 = b := by omega
  go_enter Tryz.func25, Tryz.ntmps25
  go_wp2_with fail
  go_at_call 57
  refine (ref_on _ _ _).mono ?_
  rintro z w1 ⟨rfl, hb1⟩
  rw [ho.out]
  have h2 := var2 (var_on (g := w.heap.size) hb1 (by simp only [heap_alloc]; simp; exact ⟨⟨rfl, rfl⟩, rfl⟩) (by simp))
  have hB : Below w.heap.size w w1 := below_on (below1 _ _) hb1
  clear hb1
  go_wp2_with fail
  go_at_call 58
  refine (ref_weave a b (by omega) (by omega) _).mono ?_
  rintro z w2 ⟨rfl, rfl⟩
  rw [weave_wvN a la b lb]
  have hw := wvN_lt a la b lb
  obtain ⟨v, hv⟩ : ∃ v, Hid (wvN a b = v) := ⟨_, rfl⟩
  rw [hv.out] at hw ⊢
  go_wp2
  go_ret2
  exact ⟨by rw [hv.out]; rfl, hB⟩
theorem ref_cell_off (w : World) (x y : Int) (h : onB x y = false) : Calls Tryz.prog 25 #[pt x y] w fun e w' => e = .returned (.tuple #[.int .i64 0, .int .i64 14]) ∧ Below w.heap.size w w' := by
  have ho : Hid (onB x y = false) := h
  clear h
  go_enter Tryz.func25, Tryz.ntmps25
  go_wp2_with fail
  go_at_call 57
  refine (ref_on _ _ _).mono ?_
  rintro z w1 ⟨rfl, hb1⟩
  rw [ho.out]
  have hB : Below w.heap.size w w1 := below_on (below1 _ _) hb1
  clear hb1
  go_wp2
  go_ret2
  exact ⟨rfl, hB⟩
theorem ref_cell (w : World) (x y : Int) : Calls Tryz.prog 25 #[pt x y] w fun e w' => e = .returned (.tuple #[.int .i64 (ofN x y : Nat), .int .i64 (ofE x y)]) ∧ Below w.heap.size w w' := by
  cases h : onB x y
  · simp only [ofN, ofE, h]; exact ref_cell_off w x y h
  · have := (onB_iff _ _).1 h
    obtain ⟨a, ha⟩ : ∃ a : Nat, x = a := ⟨x.toNat, by omega⟩
    obtain ⟨b, hb⟩ : ∃ b : Nat, y = b := ⟨y.toNat, by omega⟩
    subst ha hb
    have e1 : ((a : Int) / 16).toNat = a / 16 := by omega
    have e2 : ((b : Int) / 16).toNat = b / 16 := by omega
    simp only [ofN, ofE, h, e1, e2]; exact ref_cell_on w a b (by omega) (by omega)
end
end Go.Proofs.YtpedngbjpbeanaaGreatDoor
