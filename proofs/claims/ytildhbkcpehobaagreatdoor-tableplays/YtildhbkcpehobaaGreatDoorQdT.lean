/- Contracts of Put, Move, Drop and At over this translation: what each tells, and the tree behind it; nothing else that was there is changed. -/
import Derived.Test.YtildhbkcpehobaaGreatDoorQdM
namespace Go.Proofs.YtildhbkcpehobaaGreatDoor
open Go.RowKit
set_option linter.unusedVariables false
/-- what Put tells -/
def putE (id x y : Int) (S : List Sp) : Int := if id < 0 then 11 else if onB x y = false then 14 else if 0 ≤ findI id S then 11 else if 200 ≤ S.length then 16 else 0
def putS (id x y : Int) (S : List Sp) : List Sp := if putE id x y S = 0 then addS id x.toNat y.toNat S else S
def movE (id x y : Int) (S : List Sp) : Int := if findI id S < 0 then 15 else if onB x y = false then 14 else 0
def movS (id x y : Int) (S : List Sp) : List Sp := if movE id x y S = 0 then addS id x.toNat y.toNat (delS S (findI id S).toNat) else S
def drpE (id : Int) (S : List Sp) : Int := if findI id S < 0 then 15 else 0
def drpS (id : Int) (S : List Sp) : List Sp := if findI id S < 0 then S else delS S (findI id S).toNat
theorem on_nat {x y : Int} (h : onB x y = true) : ∃ a b : Nat, x = a ∧ y = b ∧ a < 64 ∧ b < 64 := by
  simp [onB, inB] at h
  exact ⟨x.toNat, y.toNat, by omega, by omega, by omega, by omega⟩
theorem Turned.kept {w w' : World} {base tb : Nat} {v : Value} {S : List Sp} (h : Tr w base tb v S) (hb : Below w.heap.size w w') : Turned w base tb v S w' :=
  ⟨v, h.later hb, Off.of_below hb _, fun k hk => .inl hk⟩
theorem Turned.behind {w w1 w' : World} {base tb : Nat} {v : Value} {S : List Sp} (hb : Below w.heap.size w w1) (h : Turned w1 base tb v S w') : Turned w base tb v S w' := by
  obtain ⟨v', h1, h2, h3⟩ := h
  exact ⟨v', h1, (Off.of_below hb _).trans h2 (fun y hy => .inl hy), fun k hk => (h3 k hk).imp (fun h => h) (fun h => Nat.le_trans hb.size h)⟩
theorem findI_lt {id : Int} {S : List Sp} (h : 0 ≤ findI id S) : (findI id S).toNat < S.length := by
  unfold findI at h ⊢
  cases hf : S.findIdx? (fun s => s.id == id) with
  | none => rw [hf] at h; simp at h
  | some i =>
    simp only [Int.toNat_natCast]
    exact (List.findIdx?_eq_some_iff_getElem.1 hf).1
theorem on_at {x y : Int} {q : Bool} (h : Hid (onB x y = q)) (w : World) : Calls Tryz.prog 43 #[pt x y] w fun e w' => e = .returned (.bool q) ∧ Below w.heap.size w w' := by
  rw [← h.out]; exact geom_on w x y
theorem find_at {w : World} {base tb : Nat} {v : Value} {S : List Sp} {id r : Int} (hr : Hid (findI id S = r)) (h : Tr w base tb v S) :
    Calls Tryz.prog 45 #[.pointer (some ⟨tb, 0, none⟩), .int .i64 id] w fun e w' => e = .returned (.int .i64 r) ∧ Below w.heap.size w w' := by
  rw [← hr.out]; exact tree_find h id
theorem Masks.off {X : List Nat} {w w' : World} (h : Masks w) (ho : Off X w w') (hx : 0 ∉ X) : Masks w' := by
  have hb : ∀ i v, w.cell? ⟨0, i, none⟩ = some v → w'.cell? ⟨0, i, none⟩ = some v := fun i v hv => by
    have hlt : 0 < w.heap.size := World.block_lt_of_cell? w ⟨0, i, none⟩ hv
    have := ho.block 0 hlt hx
    unfold World.cell? at hv ⊢
    simp only at hv ⊢
    rw [this]
    exact hv
  exact ⟨hb _ _ h.1, hb _ _ h.2.1, hb _ _ h.2.2.1, hb _ _ h.2.2.2.1, hb _ _ h.2.2.2.2⟩
set_option maxHeartbeats 1000000 in
set_option maxRecDepth 100000 in
theorem tree_put {w : World} {base tb : Nat} {v : Value} {S : List Sp} (h : Tr w base tb v S) (hl : S.length ≤ 999) (hS : Rising S) (hM : Masks w) (hbase : base ≤ w.heap.size) (id x y : Int) :
    Calls Tryz.prog 29 #[.pointer (some ⟨tb, 0, none⟩), .int .i64 id, pt x y] w fun e w' => e = .returned (.int .i64 (putE id x y S)) ∧ Turned w base tb v (putS id x y S) w' := by
  have hB0 : Below w.heap.size w (w.alloc (.cells #[.int .i64 x, .int .i64 y] 28)) := below1 _ _
  by_cases h1 : id < 0
  · have he : putE id x y S = 11 := by simp [putE, h1]
    have hs : putS id x y S = S := by simp [putS, he]
    rw [he, hs]
    have HT := hid h
    clear h he hs hS hM
    go_enter Tryz.func29, Tryz.ntmps29
    go_wp2
    go_ret
    exact ⟨rfl, Turned.kept HT.out hB0⟩
  obtain ⟨W0, hW0⟩ : ∃ W0, W0 = w.alloc (.cells #[.int .i64 x, .int .i64 y] 28) := ⟨_, rfl⟩
  rw [← hW0] at hB0
  have hP := hid (show W0.heap[w.heap.size]? = some (.cells #[.int .i64 x, .int .i64 y] 28 (0, 0)) by rw [hW0]; exact new_at _ _ _ rfl)
  have HT := hid (h.later hB0)
  have HT0 := hid h
  have HM := hid (hM.below hB0)
  clear h hM
  by_cases h2 : onB x y = false
  · have he : putE id x y S = 14 := by simp [putE, h1, h2]
    have hs : putS id x y S = S := by simp [putS, he]
    rw [he, hs]
    have C := on_at (hid h2) W0
    clear he hs hS h2
    have hp := cells_at hP.out
    go_enter Tryz.func29, Tryz.ntmps29
    go_wp2_with fail
    rw [← hW0]
    clear hW0
    refine C.mono ?_
    rintro z W1 ⟨rfl, hb1⟩
    go_wp2
    go_ret
    exact ⟨rfl, Turned.kept HT0.out (below_on hB0 hb1)⟩
  have h2' : onB x y = true := by simpa using h2
  have C := on_at (hid h2') W0
  obtain ⟨a, b, rfl, rfl, ha, hb⟩ := on_nat h2'
  obtain ⟨r, hr⟩ : ∃ r, Hid (findI id S = r) := ⟨_, rfl⟩
  by_cases h3 : 0 ≤ r
  · have he : putE id a b S = 11 := by simp [putE, h1, h2', hr.out, h3]
    have hs : putS id a b S = S := by simp [putS, he]
    rw [he, hs]
    clear he hs hS h2 h2'
    have hp := cells_at hP.out
    go_enter Tryz.func29, Tryz.ntmps29
    go_wp2_with fail
    rw [← hW0]
    clear hW0
    refine C.mono ?_
    rintro z W1 ⟨rfl, hb1⟩
    clear hp
    have C2 := find_at hr (HT.out.later hb1)
    go_wp2_with fail
    refine C2.mono ?_
    rintro z W2 ⟨rfl, hb2⟩
    go_wp2
    go_ret
    exact ⟨rfl, Turned.kept HT0.out (below_on hB0 (below_on hb1 hb2))⟩
  by_cases h4 : 200 ≤ S.length
  · have he : putE id a b S = 16 := by simp [putE, h1, h2', hr.out, h3, h4]
    have hs : putS id a b S = S := by simp [putS, he]
    rw [he, hs]
    clear he hs hS h2 h2'
    have hp := cells_at hP.out
    have h4' : (200 : Int) ≤ (S.length : Int) := by omega
    go_enter Tryz.func29, Tryz.ntmps29
    go_wp2_with fail
    rw [← hW0]
    clear hW0
    refine C.mono ?_
    rintro z W1 ⟨rfl, hb1⟩
    clear hp
    have C2 := find_at hr (HT.out.later hb1)
    go_wp2_with fail
    refine C2.mono ?_
    rintro z W2 ⟨rfl, hb2⟩
    have C3 := tree_len (HT.out.later (below_on hb1 hb2))
    go_wp2_with fail
    refine C3.mono ?_
    rintro z W3 ⟨rfl, h3'⟩
    rw [h3']
    go_wp2
    go_ret
    exact ⟨rfl, Turned.kept HT0.out (below_on hB0 (below_on hb1 hb2))⟩
  have he : putE id a b S = 0 := by simp [putE, h1, h2', hr.out, h3, h4]
  have hs : putS id a b S = addS id a b S := by simp [putS, he]
  rw [he, hs]
  clear he hs h2 h2'
  obtain ⟨S', hS'⟩ : ∃ S', Hid (addS id a b S = S') := ⟨_, rfl⟩
  have hp := cells_at hP.out
  obtain ⟨n, hn⟩ : ∃ n, Hid (S.length = n) := ⟨_, rfl⟩
  have h4' : ¬ (200 : Int) ≤ (n : Int) := by rw [← hn.out]; omega
  have HL := hid hl
  have HR := hid hS
  have Ha := hid ha
  have Hb := hid hb
  clear h4 hl hS ha hb
  go_enter Tryz.func29, Tryz.ntmps29
  go_wp2_with fail
  rw [← hW0]
  clear hW0
  refine C.mono ?_
  rintro z W1 ⟨rfl, hb1⟩
  clear hp
  have C2 := find_at hr (HT.out.later hb1)
  go_wp2_with fail
  refine C2.mono ?_
  rintro z W2 ⟨rfl, hb2⟩
  have hb12 := below_on hb1 hb2
  have C3 := tree_len (HT.out.later hb12)
  rw [hn.out] at C3
  go_wp2_with fail
  refine C3.mono ?_
  rintro z W3 ⟨rfl, h3'⟩
  rw [h3']
  clear h3' C C2 C3
  have hlt0 : w.heap.size < W0.heap.size := lt_of_at hP.out
  have hp := cells_at (var_on hb12 hP.out hlt0)
  have C4 := tree_add (HT.out.later hb12) HL.out HR.out (HM.out.below hb12) id a b Ha.out Hb.out (by have := hB0.size; have := hb12.size; omega)
  rw [hS'.out] at C4
  go_wp2_with fail
  refine C4.mono ?_
  rintro z W4 ⟨rfl, hT4⟩
  go_wp2
  go_ret
  rw [hS'.out]
  exact ⟨rfl, hT4.behind (below_on hB0 hb12)⟩
def atX (id : Int) (S : List Sp) : Int := if findI id S < 0 then 0 else plX ((S[(findI id S).toNat]?.map Sp.c).getD 0)
def atY (id : Int) (S : List Sp) : Int := if findI id S < 0 then 0 else plY ((S[(findI id S).toNat]?.map Sp.c).getD 0)
def atB (id : Int) (S : List Sp) : Bool := decide (0 ≤ findI id S)
set_option maxHeartbeats 1000000 in
theorem tree_drop {w : World} {base tb : Nat} {v : Value} {S : List Sp} (h : Tr w base tb v S) (hl : S.length ≤ 1000) (id : Int) :
    Calls Tryz.prog 33 #[.pointer (some ⟨tb, 0, none⟩), .int .i64 id] w fun e w' => e = .returned (.int .i64 (drpE id S)) ∧ Turned w base tb v (drpS id S) w' := by
  have HT := hid h
  clear h
  obtain ⟨r, hr⟩ : ∃ r, Hid (findI id S = r) := ⟨_, rfl⟩
  have C := find_at hr HT.out
  by_cases h1 : r < 0
  · have he : drpE id S = 15 := by simp [drpE, hr.out, h1]
    have hs : drpS id S = S := by simp [drpS, hr.out, h1]
    rw [he, hs]
    clear he hs
    go_enter Tryz.func33, Tryz.ntmps33
    go_wp2_with fail
    refine C.mono ?_
    rintro z W1 ⟨rfl, hb1⟩
    go_wp2
    go_ret
    exact ⟨rfl, Turned.kept HT.out hb1⟩
  · have hlt := findI_lt (id := id) (S := S) (by rw [hr.out]; omega)
    have he : drpE id S = 0 := by simp [drpE, hr.out, h1]
    have hs : drpS id S = delS S r.toNat := by simp [drpS, hr.out, h1]
    rw [he, hs]
    rw [hr.out] at hlt
    clear he hs
    obtain ⟨k, rfl⟩ : ∃ k : Nat, r = k := ⟨r.toNat, by omega⟩
    simp only [Int.toNat_natCast] at hlt ⊢
    obtain ⟨S', hS'⟩ : ∃ S', delS S k = S' := ⟨_, rfl⟩
    rw [hS']
    go_enter Tryz.func33, Tryz.ntmps33
    go_wp2_with fail
    refine C.mono ?_
    rintro z W1 ⟨rfl, hb1⟩
    clear C
    have C2 := tree_remove (HT.out.later hb1) hl k hlt
    rw [hS'] at C2
    clear hS'
    go_wp2_with fail
    refine C2.mono ?_
    rintro z W2 ⟨rfl, hT2⟩
    go_wp2
    go_ret
    exact ⟨rfl, hT2.behind hb1⟩
theorem Turned.two {w w1 w' : World} {base tb : Nat} {v v1 : Value} {S : List Sp} (h2 : Off (tb :: ob v) w w1) (h3 : ∀ k, k ∈ ob v1 → k ∈ ob v ∨ w.heap.size ≤ k) (h : Turned w1 base tb v1 S w') : Turned w base tb v S w' := by
  have hm : ∀ k, k ∈ tb :: ob v1 → k ∈ tb :: ob v ∨ w.heap.size ≤ k := fun k hk => by
    rcases List.mem_cons.1 hk with rfl | hk
    · exact .inl List.mem_cons_self
    · exact (h3 k hk).imp (fun h => List.mem_cons_of_mem _ h) (fun h => h)
  obtain ⟨v', k1, k2, k3⟩ := h
  refine ⟨v', k1, h2.trans k2 hm, fun k hk => ?_⟩
  rcases k3 k hk with h | h
  · exact h3 k h
  · exact .inr (Nat.le_trans h2.size h)
theorem delS_rising {S : List Sp} (h : Rising S) (i : Nat) : Rising (delS S i) := by
  have key : ∀ (j : Nat) (a : Sp), (delS S i)[j]? = some a → S[if j < i then j else j + 1]? = some a := fun j a ha => by
    unfold delS at ha
    rw [List.getElem?_append] at ha
    split at ha
    · rename_i hlt
      rw [List.length_take] at hlt
      rw [List.getElem?_take] at ha
      rw [if_pos (by omega)] at ha ⊢
      exact ha
    · rename_i hlt
      rw [List.length_take] at hlt
      rw [List.getElem?_drop, List.length_take] at ha
      by_cases hi : i ≤ S.length
      · rw [Nat.min_eq_left hi] at ha hlt
        rw [if_neg hlt]
        rw [show i + 1 + (j - i) = j + 1 by omega] at ha
        exact ha
      · rw [List.getElem?_eq_none (by omega)] at ha
        cases ha
  intro i' j' a b hij ha hb
  refine h _ _ a b ?_ (key _ _ ha) (key _ _ hb)
  split <;> split <;> omega
set_option maxHeartbeats 1000000 in
theorem tree_move {w : World} {base tb : Nat} {v : Value} {S : List Sp} (h : Tr w base tb v S) (hl : S.length ≤ 999) (hS : Rising S) (hM : Masks w) (hbase : base ≤ w.heap.size) (h0 : 0 < base) (id x y : Int) :
    Calls Tryz.prog 32 #[.pointer (some ⟨tb, 0, none⟩), .int .i64 id, pt x y] w fun e w' => e = .returned (.int .i64 (movE id x y S)) ∧ Turned w base tb v (movS id x y S) w' := by
  have hB0 : Below w.heap.size w (w.alloc (.cells #[.int .i64 x, .int .i64 y] 28)) := below1 _ _
  obtain ⟨W0, hW0⟩ : ∃ W0, W0 = w.alloc (.cells #[.int .i64 x, .int .i64 y] 28) := ⟨_, rfl⟩
  rw [← hW0] at hB0
  have hP := hid (show W0.heap[w.heap.size]? = some (.cells #[.int .i64 x, .int .i64 y] 28 (0, 0)) by rw [hW0]; exact new_at _ _ _ rfl)
  have hlt0 : w.heap.size < W0.heap.size := lt_of_at hP.out
  have HT := hid (h.later hB0)
  have HT0 := hid h
  have HM := hid (hM.below hB0)
  clear h hM
  obtain ⟨r, hr⟩ : ∃ r, Hid (findI id S = r) := ⟨_, rfl⟩
  have C := find_at hr HT.out
  by_cases h1 : r < 0
  · have he : movE id x y S = 15 := by simp [movE, hr.out, h1]
    have hs : movS id x y S = S := by simp [movS, he]
    rw [he, hs]
    clear he hs
    go_enter Tryz.func32, Tryz.ntmps32
    go_wp2_with fail
    rw [← hW0]
    clear hW0
    refine C.mono ?_
    rintro z W1 ⟨rfl, hb1⟩
    go_wp2
    go_ret
    exact ⟨rfl, Turned.kept HT0.out (below_on hB0 hb1)⟩
  by_cases h2 : onB x y = false
  · have he : movE id x y S = 14 := by simp [movE, hr.out, h1, h2]
    have hs : movS id x y S = S := by simp [movS, he]
    rw [he, hs]
    have h2h := hid h2
    clear he hs h2
    go_enter Tryz.func32, Tryz.ntmps32
    go_wp2_with fail
    rw [← hW0]
    clear hW0
    refine C.mono ?_
    rintro z W1 ⟨rfl, hb1⟩
    clear C
    have hp := cells_at (var_on hb1 hP.out hlt0)
    go_wp2_with fail
    refine (on_at h2h W1).mono ?_
    rintro z W2 ⟨rfl, hb2⟩
    go_wp2
    go_ret
    exact ⟨rfl, Turned.kept HT0.out (below_on hB0 (below_on hb1 hb2))⟩
  have h2' : onB x y = true := by simpa using h2
  have hlt := findI_lt (id := id) (S := S) (by rw [hr.out]; omega)
  obtain ⟨a, b, rfl, rfl, ha, hb⟩ := on_nat h2'
  have he : movE id a b S = 0 := by simp [movE, hr.out, h1, h2']
  have hs : movS id a b S = addS id a b (delS S r.toNat) := by simp [movS, he, hr.out]
  rw [he, hs]
  rw [hr.out] at hlt
  have h2h := hid h2'
  clear he hs h2 h2'
  obtain ⟨k, rfl⟩ : ∃ k : Nat, r = k := ⟨r.toNat, by omega⟩
  simp only [Int.toNat_natCast] at hlt ⊢
  obtain ⟨S1, hS1⟩ : ∃ S1, delS S k = S1 := ⟨_, rfl⟩
  have hR1 : Rising S1 := by rw [← hS1]; exact delS_rising hS k
  have hl1 : S1.length ≤ 999 := by rw [← hS1, delS_length hlt]; omega
  rw [hS1]
  obtain ⟨S', hS'⟩ : ∃ S', addS id a b S1 = S' := ⟨_, rfl⟩
  rw [hS']
  have hp0 : w.heap.size ∉ tb :: ob v := fun hm => by
    rcases List.mem_cons.1 hm with e | e
    · have := lt_of_at HT0.out.at_; omega
    · have := (HT0.out.own.lt _ (mem_ob.1 e)).2; omega
  go_enter Tryz.func32, Tryz.ntmps32
  go_wp2_with fail
  rw [← hW0]
  clear hW0
  refine C.mono ?_
  rintro z W1 ⟨rfl, hb1⟩
  clear C
  have hp := cells_at (var_on hb1 hP.out hlt0)
  go_wp2_with fail
  refine (on_at h2h W1).mono ?_
  rintro z W2 ⟨rfl, hb2⟩
  clear hp
  have hb12 := below_on hb1 hb2
  have C2 := tree_remove (HT.out.later hb12) (by omega) k hlt
  rw [hS1] at C2
  go_wp2_with fail
  refine C2.mono ?_
  rintro z W3 ⟨rfl, hT3⟩
  clear C2
  have hT3' := hT3
  obtain ⟨v3, h3a, h3b, h3c⟩ := hT3
  have hsz : base ≤ W2.heap.size := by have := hB0.size; have := hb12.size; omega
  have hzero : 0 ∉ tb :: ob v := fun hm => by
    rcases List.mem_cons.1 hm with e | e
    · have := HT0.out.lo; omega
    · have := (HT0.out.own.lt _ (mem_ob.1 e)).1; omega
  have hp := cells_at (at_off (var_on hb12 hP.out hlt0) h3b hp0)
  have C4 := tree_add h3a hl1 hR1 ((HM.out.below hb12).off h3b hzero) id a b ha hb (Nat.le_trans hsz h3b.size)
  rw [hS'] at C4
  go_wp2_with fail
  refine C4.mono ?_
  rintro z W4 ⟨rfl, hT4⟩
  clear C4
  go_wp2
  go_ret
  refine ⟨rfl, ?_⟩
  exact (Turned.two h3b h3c hT4).behind (below_on hB0 hb12)
end Go.Proofs.YtildhbkcpehobaaGreatDoor
