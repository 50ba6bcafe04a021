/- Contracts of add and remove over this translation: the tree behind each; nothing else that was there is changed. Contracts of Put, Move, Drop and At over this translation: what each tells, and the tree behind it; nothing else that was there is changed. Contracts of the document's tree over this translation: at, At, Move, Drop. Each returns what the plain functions say; nothing else that was there is changed. Contracts of the document's tree over this translation: Move, Drop. Each returns what the plain functions say; nothing else that was there is changed. Contract of the document's tree over this translation: Put. It returns what the plain functions say; nothing else that was there is changed. -/
import Derived.Test.YtfoncphdbaaedaaGreatDoorQC
import Derived.Maps.AppendAt
namespace Go.Proofs.YtfoncphdbaaedaaGreatDoor
section
open Go.RowKit
set_option linter.unusedVariables false
theorem Off.setCell (w : World) (b i : Nat) (u : Value) : Off [b] w (w.setCell ⟨b, i, none⟩ u) :=
  ⟨rfl, rfl, rfl, by simp [World.setCell], fun k hk hx => Below.heap_setCell _ _ _ _ (by simpa using hx)⟩
theorem Tr.stored {w w1 : World} {base tb : Nat} {v v' : Value} {S S' : List Sp} (h : Tr w base tb v S) (ho : w1.ownsRow base 90 2 v' S'.length (flatG Sp.cs S')) (hg : w.grownBy w1 v.ownBlock) (hv : ∀ k, v'.ownBlock = some k → v.ownBlock = some k ∨ w.heap.size ≤ k) :
    Tr (w1.setCell ⟨tb, 0, none⟩ v') base tb v' S' ∧ Off (tb :: ob v) w (w1.setCell ⟨tb, 0, none⟩ v') := by
  have hlt := lt_of_at h.at_
  have hne : some tb ≠ v.ownBlock := fun e => h.ne (mem_ob.2 e.symm)
  have h1 : w1.heap[tb]? = some (.cells #[v] 85 (0, 0)) := by rw [hg.block tb hlt hne]; exact h.at_
  have hne' : tb ∉ ob v' := fun hm => by
    rcases hv tb (mem_ob.1 hm) with e | e
    · exact hne e.symm
    · omega
  refine ⟨⟨set_at h1 v' rfl, owns_off ho (Off.setCell w1 tb 0 v') (fun k hk hx => ?_), hne', h.lo⟩, ?_⟩
  · rw [List.mem_singleton.1 hx] at hk
    exact hne' hk
  · refine (Off.grown hg (X := tb :: ob v) (fun k hk => List.mem_cons_of_mem _ (mem_ob.2 hk))).trans (Off.setCell w1 tb 0 v') (fun y hy => .inl ?_)
    rw [List.mem_singleton.1 hy]
    exact List.mem_cons_self
/-- what a change of a tree leaves -/
def Turned (w : World) (base tb : Nat) (v : Value) (S' : List Sp) (w' : World) : Prop := ∃ v', Tr w' base tb v' S' ∧ Off (tb :: ob v) w w' ∧ (∀ k, k ∈ ob v' → k ∈ ob v ∨ w.heap.size ≤ k)
set_option maxHeartbeats 1000000 in
theorem tree_remove {w : World} {base tb : Nat} {v : Value} {S : List Sp} (h : Tr w base tb v S) (hl : S.length ≤ 1000) (i : Nat) (hi : i < S.length) :
    Calls Tryz.prog 93 #[.pointer (some ⟨tb, 0, none⟩), .int .i64 (i : Nat)] w fun e w' => e = .returned (.tuple #[]) ∧ Turned w base tb v (delS S i) w' := by
  have C := delete_at h.own hl hi
  have hcell := cells_at h.at_
  obtain ⟨p, c, rfl⟩ := owns_slice h.own
  have HT := hid h
  have hcast : ((i : Int) + 1) = ((i + 1 : Nat) : Int) := by omega
  rw [show ((i + 1 : Nat) : Int) = (i : Int) + 1 by omega] at C
  have hi2 : i ≤ 1000 := by omega
  clear h hcast
  obtain ⟨n, hn⟩ : ∃ n, Hid (S.length = n) := ⟨_, rfl⟩
  rw [hn.out] at C hcell HT ⊢
  go_enter Tryz.func93, Tryz.ntmps93
  go_wp2_with fail
  refine C.mono ?_
  rintro x W1 ⟨v', rfl, hown, hg, hob⟩
  clear C
  have hT := HT.out
  obtain ⟨p', c', rfl⟩ := owns_slice hown
  have hfin := hT.stored hown hg (fun k hk => .inl (by rw [← hob]; exact hk))
  have hlt := lt_of_at hT.at_
  have hne : some tb ≠ (Value.slice p n c).ownBlock := fun e => hT.ne (mem_ob.2 e.symm)
  have hcell1 := cells_at (show W1.heap[tb]? = some (.cells #[.slice p n c] 85 (0, 0)) by rw [hg.block tb hlt hne]; exact hT.at_)
  clear hg hown hT hcell HT
  go_wp2
  first | go_end0 | skip
  refine ⟨rfl, _, hfin.1, hfin.2, fun k hk => .inl ?_⟩
  rw [mem_ob] at hk ⊢
  rw [← hob]; exact hk
def addS (id : Int) (x y : Nat) (S : List Sp) : List Sp := insS S (firstN (weave x y) S) ⟨id, weave x y⟩
theorem below_drew {B : Nat} {a w : World} (h : Below B a w) : Below B a w.drew := h.drew
set_option maxHeartbeats 4000000 in
theorem tree_add {w : World} {base tb : Nat} {v : Value} {S : List Sp} (h : Tr w base tb v S) (hl : S.length ≤ 999) (hS : Rising S) (hM : Masks w) (id : Int) (x y : Nat) (hx : x < 64) (hy : y < 64) (hbase : base ≤ w.heap.size) :
    Calls Tryz.prog 94 #[.pointer (some ⟨tb, 0, none⟩), .int .i64 id, .agg #[.int .i64 (x : Nat), .int .i64 (y : Nat)]] w fun e w' => e = .returned (.tuple #[]) ∧ Turned w base tb v (addS id x y S) w' := by
  obtain ⟨W0, hW0⟩ : ∃ W0, W0 = w.alloc (.cells #[.int .i64 (x : Nat), .int .i64 (y : Nat)] 32) := ⟨_, rfl⟩
  have hB0 : Below w.heap.size w W0 := by rw [hW0]; exact below1 _ _
  have HT := hid (h.later hB0)
  have HM := hid (hM.below hB0)
  have C0 := weave_at x y (by omega) (by omega) W0 HM.out
  obtain ⟨c, hc⟩ : ∃ c, Hid (weave x y = c) := ⟨_, rfl⟩
  have hcl : c < 4294967296 := by rw [← hc.out]; exact weave_lt x y
  have hres : addS id x y S = insS S (firstN c S) ⟨id, c⟩ := by unfold addS; rw [hc.out]
  rw [hres]
  rw [hc.out] at C0
  obtain ⟨k, hk⟩ : ∃ k, Hid (firstN c S = k) := ⟨_, rfl⟩
  have hkl : k ≤ S.length := by rw [← hk.out]; exact firstN_le c S
  rw [hk.out]
  clear hres h hM
  have x1 : (x : Int) % 65536 = (x : Int) := by omega
  have y1 : (y : Int) % 65536 = (y : Int) := by omega
  go_enter Tryz.func94, Tryz.ntmps94
  go_wp2_with fail
  rw [← hW0]
  clear hW0
  refine C0.mono ?_
  rintro z W1 ⟨rfl, h1⟩
  rw [h1]
  clear h1 W1 C0
  have C1 : Hid (∀ W, Below W0.heap.size W0 W → Calls Tryz.prog 79 #[.pointer (some ⟨tb, 0, none⟩), .int .u32 (c : Nat)] W fun e w' => e = .returned (.int .i64 (k : Nat)) ∧ Below W.heap.size W w') := fun W hW => by
    have := tree_first (HT.out.later hW) (by omega) hS c
    rw [hk.out] at this
    exact this
  have hbs : base ≤ W0.heap.size := by have := hB0.size; omega
  have NB : Hid (∀ b, W0.heap.size ≤ b → v.ownBlock ≠ some b) := fun b hb e => by
    have := (HT.out.own.lt b e).2
    omega
  have C2 : Hid (∀ W vb, Below W0.heap.size W0 W → W0.heap.size ≤ vb → W.heap[vb]? = some (.cells #[.int .i64 id, .int .u32 (c : Nat)] 90 (0, 0)) → Calls Tryz.prog 121 #[v, .int .i64 (k : Nat), .slice (some ⟨vb, 0, none⟩) 1 1] W fun e w' => ∃ g' cap', e = .returned (.slice (some ⟨g', 0, none⟩) (S.length + 1) cap') ∧ w'.heap[tb]? = some (.cells #[v] 85 (0, 0)) ∧ Turned w base tb v (insS S k ⟨id, c⟩) (w'.setCell ⟨tb, 0, none⟩ (.slice (some ⟨g', 0, none⟩) (S.length + 1) cap'))) := fun W vb hW hvb hat => by
    have hT := HT.out.later hW
    have hsz := hW.size
    refine (insert_at (s := ⟨id, c⟩) hT.own (by omega) hkl hat (NB.out vb hvb) (by omega)).mono ?_
    rintro z w2 ⟨g', cap', rfl, hown, hg, hor⟩
    have hlt := lt_of_at hT.at_
    have hne : some tb ≠ v.ownBlock := fun e => hT.ne (mem_ob.2 e.symm)
    have hfin := hT.stored (S' := insS S k ⟨id, c⟩) (v' := .slice (some ⟨g', 0, none⟩) (S.length + 1) cap') (by rw [insS_length hkl]; exact hown) hg (fun b hb => by
      have e : g' = b := Option.some.inj hb
      rw [← e]; exact hor)
    refine ⟨g', cap', rfl, by rw [hg.block tb hlt hne]; exact hT.at_, _, hfin.1, ?_, fun b hb => ?_⟩
    · exact (Off.of_below (below_on hB0 hW) (tb :: ob v)).trans hfin.2 (fun y hy => .inl hy)
    · have e : g' = b := Option.some.inj (mem_ob.1 hb)
      rw [← e, mem_ob]
      have := hB0.size
      exact hor.imp (fun h => h) (fun h => by omega)
  have hcell := cells_at HT.out.at_
  obtain ⟨p, cv, rfl⟩ := owns_slice HT.out.own
  clear hbs NB
  have HT2 := HT
  clear HT
  have hlt0 : tb < W0.heap.size := lt_of_at HT2.out.at_
  have hne0 : tb ≠ W0.heap.size := by omega
  go_wp2_with fail
  go_region_with (first
    | (go_at_call 79; refine (C1.out _ (by first | exact (Below.refl _ _).drew | exact (below1 _ _).drew)).mono ?_; rintro z w1 ⟨rfl, hb1⟩
       have hBx : Below W0.heap.size W0 w1 := (by first | exact below_on (Below.refl _ W0).drew hb1 | exact below_on (below1 W0 (.cells #[.int .i64 id, .int .u32 (c : Nat)] 90)).drew hb1)
       have hcx := cells_at (var_on hBx HT2.out.at_ (lt_of_at HT2.out.at_))
       have hlx : tb < w1.heap.size := Nat.lt_of_lt_of_le hlt0 hBx.size
       have hnx : tb ≠ w1.heap.size := Nat.ne_of_lt hlx)
    | (go_at_call 121; have D := C2.out (w1.alloc (.cells #[.int .i64 id, .int .u32 (c : Nat)] 90)) w1.heap.size (hBx.alloc hBx.size _) hBx.size (new_at _ _ _ rfl); (first | (with_reducible refine D.mono ?_) | (have DB := C2.out w1 W0.heap.size hBx (Nat.le_refl _) (var_on hb1 (show (W0.alloc (.cells #[.int .i64 id, .int .u32 (c : Nat)] 90)).drew.heap[W0.heap.size]? = some (.cells #[.int .i64 id, .int .u32 (c : Nat)] 90 (0, 0)) from new_at W0 _ _ rfl) (by show W0.heap.size < (W0.alloc _).heap.size; rw [World.size_alloc]; omega)); with_reducible refine DB.mono ?_; clear DB)); clear D; rintro z w2 ⟨g', cap', rfl, hcy, hfin⟩
       have hcz := cells_at hcy))
  all_goals
    go_wp2
    first | go_end0 | skip
    exact ⟨rfl, hfin⟩
end
section
open Go.RowKit
set_option linter.unusedVariables false
/-- what Put tells -/
def putE (id x y : Int) (S : List Sp) : Int := if id < 0 then 11 else if onB x y = false then 14 else if 0 ≤ findI id S then 11 else if 200 ≤ S.length then 16 else 0
def putS (id x y : Int) (S : List Sp) : List Sp := if putE id x y S = 0 then addS id x.toNat y.toNat S else S
def movE (id x y : Int) (S : List Sp) : Int := if findI id S < 0 then 15 else if onB x y = false then 14 else 0
def movS (id x y : Int) (S : List Sp) : List Sp := if movE id x y S = 0 then addS id x.toNat y.toNat (delS S (findI id S).toNat) else S
def drpE (id : Int) (S : List Sp) : Int := if findI id S < 0 then 15 else 0
def drpS (id : Int) (S : List Sp) : List Sp := if findI id S < 0 then S else delS S (findI id S).toNat
theorem on_nat {x y : Int} (h : onB x y = true) : ∃ a b : Nat, x = a ∧ y = b ∧ a < 64 ∧ b < 64 := by
  simp [onB, inB] at h
  exact ⟨x.toNat, y.toNat, by omega, by omega, by omega, by omega⟩
theorem Turned.kept {w w' : World} {base tb : Nat} {v : Value} {S : List Sp} (h : Tr w base tb v S) (hb : Below w.heap.size w w') : Turned w base tb v S w' :=
  ⟨v, h.later hb, Off.of_below hb _, fun k hk => .inl hk⟩
theorem Turned.behind {w w1 w' : World} {base tb : Nat} {v : Value} {S : List Sp} (hb : Below w.heap.size w w1) (h : Turned w1 base tb v S w') : Turned w base tb v S w' := by
  obtain ⟨v', h1, h2, h3⟩ := h
  exact ⟨v', h1, (Off.of_below hb _).trans h2 (fun y hy => .inl hy), fun k hk => (h3 k hk).imp (fun h => h) (fun h => Nat.le_trans hb.size h)⟩
theorem findI_lt {id : Int} {S : List Sp} (h : 0 ≤ findI id S) : (findI id S).toNat < S.length := by
  unfold findI at h ⊢
  cases hf : S.findIdx? (fun s => s.id == id) with
  | none => rw [hf] at h; simp at h
  | some i =>
    simp only [Int.toNat_natCast]
    exact (List.findIdx?_eq_some_iff_getElem.1 hf).1
theorem on_at {x y : Int} {q : Bool} (h : Hid (onB x y = q)) (w : World) : Calls Tryz.prog 90 #[pt x y] w fun e w' => e = .returned (.bool q) ∧ Below w.heap.size w w' := by
  rw [← h.out]; exact geom_on w x y
theorem find_at {w : World} {base tb : Nat} {v : Value} {S : List Sp} {id r : Int} (hr : Hid (findI id S = r)) (h : Tr w base tb v S) :
    Calls Tryz.prog 92 #[.pointer (some ⟨tb, 0, none⟩), .int .i64 id] w fun e w' => e = .returned (.int .i64 r) ∧ Below w.heap.size w w' := by
  rw [← hr.out]; exact tree_find h id
theorem Masks.off {X : List Nat} {w w' : World} (h : Masks w) (ho : Off X w w') (hx : 0 ∉ X) : Masks w' := by
  have hb : ∀ i v, w.cell? ⟨0, i, none⟩ = some v → w'.cell? ⟨0, i, none⟩ = some v := fun i v hv => by
    have hlt : 0 < w.heap.size := World.block_lt_of_cell? w ⟨0, i, none⟩ hv
    have := ho.block 0 hlt hx
    unfold World.cell? at hv ⊢
    simp only at hv ⊢
    rw [this]
    exact hv
  exact ⟨hb _ _ h.1, hb _ _ h.2.1, hb _ _ h.2.2.1, hb _ _ h.2.2.2.1, hb _ _ h.2.2.2.2⟩
set_option maxHeartbeats 1000000 in
set_option maxRecDepth 100000 in
theorem tree_put {w : World} {base tb : Nat} {v : Value} {S : List Sp} (h : Tr w base tb v S) (hl : S.length ≤ 999) (hS : Rising S) (hM : Masks w) (hbase : base ≤ w.heap.size) (id x y : Int) :
    Calls Tryz.prog 70 #[.pointer (some ⟨tb, 0, none⟩), .int .i64 id, pt x y] w fun e w' => e = .returned (.int .i64 (putE id x y S)) ∧ Turned w base tb v (putS id x y S) w' := by
  have hB0 : Below w.heap.size w (w.alloc (.cells #[.int .i64 x, .int .i64 y] 32)) := below1 _ _
  by_cases h1 : id < 0
  · have he : putE id x y S = 11 := by simp [putE, h1]
    have hs : putS id x y S = S := by simp [putS, he]
    rw [he, hs]
    have HT := hid h
    clear h he hs hS hM
    go_enter Tryz.func70, Tryz.ntmps70
    go_wp2
    go_ret
    exact ⟨rfl, Turned.kept HT.out hB0⟩
  obtain ⟨W0, hW0⟩ : ∃ W0, W0 = w.alloc (.cells #[.int .i64 x, .int .i64 y] 32) := ⟨_, rfl⟩
  rw [← hW0] at hB0
  have hP := hid (show W0.heap[w.heap.size]? = some (.cells #[.int .i64 x, .int .i64 y] 32 (0, 0)) by rw [hW0]; exact new_at _ _ _ rfl)
  have HT := hid (h.later hB0)
  have HT0 := hid h
  have HM := hid (hM.below hB0)
  clear h hM
  by_cases h2 : onB x y = false
  · have he : putE id x y S = 14 := by simp [putE, h1, h2]
    have hs : putS id x y S = S := by simp [putS, he]
    rw [he, hs]
    have C := on_at (hid h2) W0
    clear he hs hS h2
    have hp := cells_at hP.out
    go_enter Tryz.func70, Tryz.ntmps70
    go_wp2_with fail
    rw [← hW0]
    clear hW0
    refine C.mono ?_
    rintro z W1 ⟨rfl, hb1⟩
    go_wp2
    go_ret
    exact ⟨rfl, Turned.kept HT0.out (below_on hB0 hb1)⟩
  have h2' : onB x y = true := by simpa using h2
  have C := on_at (hid h2') W0
  obtain ⟨a, b, rfl, rfl, ha, hb⟩ := on_nat h2'
  obtain ⟨r, hr⟩ : ∃ r, Hid (findI id S = r) := ⟨_, rfl⟩
  by_cases h3 : 0 ≤ r
  · have he : putE id a b S = 11 := by simp [putE, h1, h2', hr.out, h3]
    have hs : putS id a b S = S := by simp [putS, he]
    rw [he, hs]
    clear he hs hS h2 h2'
    have hp := cells_at hP.out
    go_enter Tryz.func70, Tryz.ntmps70
    go_wp2_with fail
    rw [← hW0]
    clear hW0
    refine C.mono ?_
    rintro z W1 ⟨rfl, hb1⟩
    clear hp
    have C2 := find_at hr (HT.out.later hb1)
    go_wp2_with fail
    refine C2.mono ?_
    rintro z W2 ⟨rfl, hb2⟩
    go_wp2
    go_ret
    exact ⟨rfl, Turned.kept HT0.out (below_on hB0 (below_on hb1 hb2))⟩
  by_cases h4 : 200 ≤ S.length
  · have he : putE id a b S = 16 := by simp [putE, h1, h2', hr.out, h3, h4]
    have hs : putS id a b S = S := by simp [putS, he]
    rw [he, hs]
    clear he hs hS h2 h2'
    have hp := cells_at hP.out
    have h4' : (200 : Int) ≤ (S.length : Int) := by omega
    go_enter Tryz.func70, Tryz.ntmps70
    go_wp2_with fail
    rw [← hW0]
    clear hW0
    refine C.mono ?_
    rintro z W1 ⟨rfl, hb1⟩
    clear hp
    have C2 := find_at hr (HT.out.later hb1)
    go_wp2_with fail
    refine C2.mono ?_
    rintro z W2 ⟨rfl, hb2⟩
    have C3 := tree_len (HT.out.later (below_on hb1 hb2))
    go_wp2_with fail
    refine C3.mono ?_
    rintro z W3 ⟨rfl, h3'⟩
    rw [h3']
    go_wp2
    go_ret
    exact ⟨rfl, Turned.kept HT0.out (below_on hB0 (below_on hb1 hb2))⟩
  have he : putE id a b S = 0 := by simp [putE, h1, h2', hr.out, h3, h4]
  have hs : putS id a b S = addS id a b S := by simp [putS, he]
  rw [he, hs]
  clear he hs h2 h2'
  obtain ⟨S', hS'⟩ : ∃ S', Hid (addS id a b S = S') := ⟨_, rfl⟩
  have hp := cells_at hP.out
  obtain ⟨n, hn⟩ : ∃ n, Hid (S.length = n) := ⟨_, rfl⟩
  have h4' : ¬ (200 : Int) ≤ (n : Int) := by rw [← hn.out]; omega
  have HL := hid hl
  have HR := hid hS
  have Ha := hid ha
  have Hb := hid hb
  clear h4 hl hS ha hb
  go_enter Tryz.func70, Tryz.ntmps70
  go_wp2_with fail
  rw [← hW0]
  clear hW0
  refine C.mono ?_
  rintro z W1 ⟨rfl, hb1⟩
  clear hp
  have C2 := find_at hr (HT.out.later hb1)
  go_wp2_with fail
  refine C2.mono ?_
  rintro z W2 ⟨rfl, hb2⟩
  have hb12 := below_on hb1 hb2
  have C3 := tree_len (HT.out.later hb12)
  rw [hn.out] at C3
  go_wp2_with fail
  refine C3.mono ?_
  rintro z W3 ⟨rfl, h3'⟩
  rw [h3']
  clear h3' C C2 C3
  have hlt0 : w.heap.size < W0.heap.size := lt_of_at hP.out
  have hp := cells_at (var_on hb12 hP.out hlt0)
  have C4 := tree_add (HT.out.later hb12) HL.out HR.out (HM.out.below hb12) id a b Ha.out Hb.out (by have := hB0.size; have := hb12.size; omega)
  rw [hS'.out] at C4
  go_wp2_with fail
  refine C4.mono ?_
  rintro z W4 ⟨rfl, hT4⟩
  go_wp2
  go_ret
  rw [hS'.out]
  exact ⟨rfl, hT4.behind (below_on hB0 hb12)⟩
def atX (id : Int) (S : List Sp) : Int := if findI id S < 0 then 0 else plX ((S[(findI id S).toNat]?.map Sp.c).getD 0)
def atY (id : Int) (S : List Sp) : Int := if findI id S < 0 then 0 else plY ((S[(findI id S).toNat]?.map Sp.c).getD 0)
def atB (id : Int) (S : List Sp) : Bool := decide (0 ≤ findI id S)
set_option maxHeartbeats 1000000 in
theorem tree_drop {w : World} {base tb : Nat} {v : Value} {S : List Sp} (h : Tr w base tb v S) (hl : S.length ≤ 1000) (id : Int) :
    Calls Tryz.prog 89 #[.pointer (some ⟨tb, 0, none⟩), .int .i64 id] w fun e w' => e = .returned (.int .i64 (drpE id S)) ∧ Turned w base tb v (drpS id S) w' := by
  have HT := hid h
  clear h
  obtain ⟨r, hr⟩ : ∃ r, Hid (findI id S = r) := ⟨_, rfl⟩
  have C := find_at hr HT.out
  by_cases h1 : r < 0
  · have he : drpE id S = 15 := by simp [drpE, hr.out, h1]
    have hs : drpS id S = S := by simp [drpS, hr.out, h1]
    rw [he, hs]
    clear he hs
    go_enter Tryz.func89, Tryz.ntmps89
    go_wp2_with fail
    refine C.mono ?_
    rintro z W1 ⟨rfl, hb1⟩
    go_wp2
    go_ret
    exact ⟨rfl, Turned.kept HT.out hb1⟩
  · have hlt := findI_lt (id := id) (S := S) (by rw [hr.out]; omega)
    have he : drpE id S = 0 := by simp [drpE, hr.out, h1]
    have hs : drpS id S = delS S r.toNat := by simp [drpS, hr.out, h1]
    rw [he, hs]
    rw [hr.out] at hlt
    clear he hs
    obtain ⟨k, rfl⟩ : ∃ k : Nat, r = k := ⟨r.toNat, by omega⟩
    simp only [Int.toNat_natCast] at hlt ⊢
    obtain ⟨S', hS'⟩ : ∃ S', delS S k = S' := ⟨_, rfl⟩
    rw [hS']
    go_enter Tryz.func89, Tryz.ntmps89
    go_wp2_with fail
    refine C.mono ?_
    rintro z W1 ⟨rfl, hb1⟩
    clear C
    have C2 := tree_remove (HT.out.later hb1) hl k hlt
    rw [hS'] at C2
    clear hS'
    go_wp2_with fail
    refine C2.mono ?_
    rintro z W2 ⟨rfl, hT2⟩
    go_wp2
    go_ret
    exact ⟨rfl, hT2.behind hb1⟩
theorem Turned.two {w w1 w' : World} {base tb : Nat} {v v1 : Value} {S : List Sp} (h2 : Off (tb :: ob v) w w1) (h3 : ∀ k, k ∈ ob v1 → k ∈ ob v ∨ w.heap.size ≤ k) (h : Turned w1 base tb v1 S w') : Turned w base tb v S w' := by
  have hm : ∀ k, k ∈ tb :: ob v1 → k ∈ tb :: ob v ∨ w.heap.size ≤ k := fun k hk => by
    rcases List.mem_cons.1 hk with rfl | hk
    · exact .inl List.mem_cons_self
    · exact (h3 k hk).imp (fun h => List.mem_cons_of_mem _ h) (fun h => h)
  obtain ⟨v', k1, k2, k3⟩ := h
  refine ⟨v', k1, h2.trans k2 hm, fun k hk => ?_⟩
  rcases k3 k hk with h | h
  · exact h3 k h
  · exact .inr (Nat.le_trans h2.size h)
theorem delS_rising {S : List Sp} (h : Rising S) (i : Nat) : Rising (delS S i) := by
  have key : ∀ (j : Nat) (a : Sp), (delS S i)[j]? = some a → S[if j < i then j else j + 1]? = some a := fun j a ha => by
    unfold delS at ha
    rw [List.getElem?_append] at ha
    split at ha
    · rename_i hlt
      rw [List.length_take] at hlt
      rw [List.getElem?_take] at ha
      rw [if_pos (by omega)] at ha ⊢
      exact ha
    · rename_i hlt
      rw [List.length_take] at hlt
      rw [List.getElem?_drop, List.length_take] at ha
      by_cases hi : i ≤ S.length
      · rw [Nat.min_eq_left hi] at ha hlt
        rw [if_neg hlt]
        rw [show i + 1 + (j - i) = j + 1 by omega] at ha
        exact ha
      · rw [List.getElem?_eq_none (by omega)] at ha
        cases ha
  intro i' j' a b hij ha hb
  refine h _ _ a b ?_ (key _ _ ha) (key _ _ hb)
  split <;> split <;> omega
set_option maxHeartbeats 1000000 in
theorem tree_move {w : World} {base tb : Nat} {v : Value} {S : List Sp} (h : Tr w base tb v S) (hl : S.length ≤ 999) (hS : Rising S) (hM : Masks w) (hbase : base ≤ w.heap.size) (h0 : 0 < base) (id x y : Int) :
    Calls Tryz.prog 69 #[.pointer (some ⟨tb, 0, none⟩), .int .i64 id, pt x y] w fun e w' => e = .returned (.int .i64 (movE id x y S)) ∧ Turned w base tb v (movS id x y S) w' := by
  have hB0 : Below w.heap.size w (w.alloc (.cells #[.int .i64 x, .int .i64 y] 32)) := below1 _ _
  obtain ⟨W0, hW0⟩ : ∃ W0, W0 = w.alloc (.cells #[.int .i64 x, .int .i64 y] 32) := ⟨_, rfl⟩
  rw [← hW0] at hB0
  have hP := hid (show W0.heap[w.heap.size]? = some (.cells #[.int .i64 x, .int .i64 y] 32 (0, 0)) by rw [hW0]; exact new_at _ _ _ rfl)
  have hlt0 : w.heap.size < W0.heap.size := lt_of_at hP.out
  have HT := hid (h.later hB0)
  have HT0 := hid h
  have HM := hid (hM.below hB0)
  clear h hM
  obtain ⟨r, hr⟩ : ∃ r, Hid (findI id S = r) := ⟨_, rfl⟩
  have C := find_at hr HT.out
  by_cases h1 : r < 0
  · have he : movE id x y S = 15 := by simp [movE, hr.out, h1]
    have hs : movS id x y S = S := by simp [movS, he]
    rw [he, hs]
    clear he hs
    go_enter Tryz.func69, Tryz.ntmps69
    go_wp2_with fail
    rw [← hW0]
    clear hW0
    refine C.mono ?_
    rintro z W1 ⟨rfl, hb1⟩
    go_wp2
    go_ret
    exact ⟨rfl, Turned.kept HT0.out (below_on hB0 hb1)⟩
  by_cases h2 : onB x y = false
  · have he : movE id x y S = 14 := by simp [movE, hr.out, h1, h2]
    have hs : movS id x y S = S := by simp [movS, he]
    rw [he, hs]
    have h2h := hid h2
    clear he hs h2
    go_enter Tryz.func69, Tryz.ntmps69
    go_wp2_with fail
    rw [← hW0]
    clear hW0
    refine C.mono ?_
    rintro z W1 ⟨rfl, hb1⟩
    clear C
    have hp := cells_at (var_on hb1 hP.out hlt0)
    go_wp2_with fail
    refine (on_at h2h W1).mono ?_
    rintro z W2 ⟨rfl, hb2⟩
    go_wp2
    go_ret
    exact ⟨rfl, Turned.kept HT0.out (below_on hB0 (below_on hb1 hb2))⟩
  have h2' : onB x y = true := by simpa using h2
  have hlt := findI_lt (id := id) (S := S) (by rw [hr.out]; omega)
  obtain ⟨a, b, rfl, rfl, ha, hb⟩ := on_nat h2'
  have he : movE id a b S = 0 := by simp [movE, hr.out, h1, h2']
  have hs : movS id a b S = addS id a b (delS S r.toNat) := by simp [movS, he, hr.out]
  rw [he, hs]
  rw [hr.out] at hlt
  have h2h := hid h2'
  clear he hs h2 h2'
  obtain ⟨k, rfl⟩ : ∃ k : Nat, r = k := ⟨r.toNat, by omega⟩
  simp only [Int.toNat_natCast] at hlt ⊢
  obtain ⟨S1, hS1⟩ : ∃ S1, delS S k = S1 := ⟨_, rfl⟩
  have hR1 : Rising S1 := by rw [← hS1]; exact delS_rising hS k
  have hl1 : S1.length ≤ 999 := by rw [← hS1, delS_length hlt]; omega
  rw [hS1]
  obtain ⟨S', hS'⟩ : ∃ S', addS id a b S1 = S' := ⟨_, rfl⟩
  rw [hS']
  have hp0 : w.heap.size ∉ tb :: ob v := fun hm => by
    rcases List.mem_cons.1 hm with e | e
    · have := lt_of_at HT0.out.at_; omega
    · have := (HT0.out.own.lt _ (mem_ob.1 e)).2; omega
  go_enter Tryz.func69, Tryz.ntmps69
  go_wp2_with fail
  rw [← hW0]
  clear hW0
  refine C.mono ?_
  rintro z W1 ⟨rfl, hb1⟩
  clear C
  have hp := cells_at (var_on hb1 hP.out hlt0)
  go_wp2_with fail
  refine (on_at h2h W1).mono ?_
  rintro z W2 ⟨rfl, hb2⟩
  clear hp
  have hb12 := below_on hb1 hb2
  have C2 := tree_remove (HT.out.later hb12) (by omega) k hlt
  rw [hS1] at C2
  go_wp2_with fail
  refine C2.mono ?_
  rintro z W3 ⟨rfl, hT3⟩
  clear C2
  have hT3' := hT3
  obtain ⟨v3, h3a, h3b, h3c⟩ := hT3
  have hsz : base ≤ W2.heap.size := by have := hB0.size; have := hb12.size; omega
  have hzero : 0 ∉ tb :: ob v := fun hm => by
    rcases List.mem_cons.1 hm with e | e
    · have := HT0.out.lo; omega
    · have := (HT0.out.own.lt _ (mem_ob.1 e)).1; omega
  have hp := cells_at (at_off (var_on hb12 hP.out hlt0) h3b hp0)
  have C4 := tree_add h3a hl1 hR1 ((HM.out.below hb12).off h3b hzero) id a b ha hb (Nat.le_trans hsz h3b.size)
  rw [hS'] at C4
  go_wp2_with fail
  refine C4.mono ?_
  rintro z W4 ⟨rfl, hT4⟩
  clear C4
  go_wp2
  go_ret
  refine ⟨rfl, ?_⟩
  exact (Turned.two h3b h3c hT4).behind (below_on hB0 hb12)
end
section
open Go.RowKit
set_option linter.unusedVariables false
/-- the document's tree behind a pointer -/
theorem Tr.off {W W' : World} {base tb : Nat} {v : Value} {S : List Sp} {X : List Nat} (h : Tr W base tb v S) (ho : Off X W W') (hx : ∀ k, k ∈ tb :: ob v → k ∉ X) : Tr W' base tb v S :=
  ⟨at_off h.at_ ho (hx _ List.mem_cons_self), owns_off h.own ho (fun k hk => hx k (List.mem_cons_of_mem _ hk)), h.ne, h.lo⟩
/-- what a change of the document's tree leaves -/
def rfI (id : Int) (S : List Mk) : Int := match S.findIdx? (fun s => s.id == id) with | some i => (i : Int) | none => -1
theorem rfI_hit {id : Int} {S : List Mk} {k : Nat} {s : Mk} (hk : S[k]? = some s) (hs : s.id = id) (hl : ∀ j a, j < k → S[j]? = some a → ¬ a.id = id) : rfI id S = k := by
  have hkl : k < S.length := (List.getElem?_eq_some_iff.1 hk).1
  have e : S[k] = s := (List.getElem?_eq_some_iff.1 hk).2
  have : S.findIdx? (fun s => s.id == id) = some k := by
    rw [List.findIdx?_eq_some_iff_getElem]
    refine ⟨hkl, by rw [e]; simpa using hs, fun j hj => ?_⟩
    have := hl j S[j] hj (List.getElem?_eq_getElem (by omega))
    simpa using this
  unfold rfI
  rw [this]
theorem rfI_miss {id : Int} {S : List Mk} (hl : ∀ j a, j < S.length → S[j]? = some a → ¬ a.id = id) : rfI id S = -1 := by
  have : S.findIdx? (fun s => s.id == id) = none := by
    rw [List.findIdx?_eq_none_iff]
    intro a ha
    obtain ⟨j, hj, rfl⟩ := List.getElem_of_mem ha
    simpa using hl j S[j] hj (List.getElem?_eq_getElem hj)
  unfold rfI
  rw [this]
theorem rfI_lt {id : Int} {S : List Mk} (h : 0 ≤ rfI id S) : (rfI id S).toNat < S.length := by
  unfold rfI at h ⊢
  cases hf : S.findIdx? (fun s => s.id == id) with
  | none => rw [hf] at h; simp at h
  | some i =>
    simp only [Int.toNat_natCast]
    exact (List.findIdx?_eq_some_iff_getElem.1 hf).1
def ratX (id : Int) (S : List Mk) : Int := if rfI id S < 0 then 0 else (S[(rfI id S).toNat]?.map Mk.x).getD 0
def ratY (id : Int) (S : List Mk) : Int := if rfI id S < 0 then 0 else (S[(rfI id S).toNat]?.map Mk.y).getD 0
def ratB (id : Int) (S : List Mk) : Bool := decide (0 ≤ rfI id S)
end
section
open Go.RowKit
set_option linter.unusedVariables false
theorem marks_cell (S : List Mk) : ∀ u ∈ flatG Mk.cs S, u.oneCell' = true := by
  intro u hu
  obtain ⟨a, _, hu⟩ := List.mem_flatMap.1 hu
  simp [Mk.cs] at hu
  rcases hu with rfl | rfl | rfl <;> rfl
/-- append at a step of a region that draws: whatever is appended, nothing too -/
theorem step_append_any {P : Program} {w : World} {ops : Array Oper} {o : Oper} {a : Act} {K : Act → World → Prop} {Q : Exit → Act → World → Prop} {E : Prop} (hgd : o.guard = none) (s x : Operand) (t : TypeId)
    (ho : o.op = .call { callee := .builtin .append, args := #[s, x], argTypes := #[t, t] })
    (base : Nat) (e : TypeId) (i : TypeInfo) (z : Value) (size bytes : Nat) (ht : P.underlying t = some (.slice e)) (hi : P.info? e = some i) (hz : i.zero = some z)
    (hsize : i.size = size) (hby : i.bytes = bytes) (hzs : z.cells.size = size) (hsz : 0 < size)
    (v : Value) (n : Nat) (xs : List Value) (hs : a.eval s = v) (hown : w.ownsRow base e size v n xs)
    (ad : Addr) (m c : Nat) (news : List Value) (hx : a.eval x = .slice (some ad) m c) (hl : news.length = m * size) (hnews : ∀ j u, news[j]? = some u → w.cell? (ad.add j) = some u) (h1 : ∀ u ∈ news, u.oneCell' = true)
    (h63 : n + m ≤ maxLen) (hbytes : (n + m) * bytes ≤ 140737488355328) (hbase : base ≤ w.heap.size)
    (h : ∀ v' w', w'.ownsRow base e size v' (n + m) (xs ++ news) → w.grownBy w' v.ownBlock → (v'.ownBlock = v.ownBlock ∨ v'.ownBlock = some w.heap.size) → K (a.put o.dst v') w') :
    if Region.wanted o (yielded ops a.tmps) = true then Oper.wp P o a w K Q else E := by
  rw [if_pos (by simp [Region.wanted, hgd])]
  obtain ⟨v', w', hr, h2, h3, _, h5⟩ := run_append_own_at (P := P) w base t o.type e i z size bytes ht hi hz hsize hby hzs hsz v n xs hown ad m c news hl hnews h1 h63 hbytes hbase
  unfold Oper.wp execOp
  simp only [ho, resolve, invoke, builtin, Sem.run_bind, Sem.run_pure, Result.andThen_ok, List.map_toArray, List.map_cons, List.map_nil, hs, hx, hr]
  exact h v' w' h2 h3 h5
def rmvE (id x y : Int) (S : List Mk) : Int := if rfI id S < 0 then 15 else if onB x y = false then 14 else 0
def setM (S : List Mk) (k : Nat) (x y : Int) : List Mk := S.modify k fun s => ⟨s.id, x, y⟩
def rmvS (id x y : Int) (S : List Mk) : List Mk := if rmvE id x y S = 0 then setM S (rfI id S).toNat x y else S
def rdrE (id : Int) (S : List Mk) : Int := if rfI id S < 0 then 15 else 0
def rdrS (id : Int) (S : List Mk) : List Mk := if rfI id S < 0 then S else delS S (rfI id S).toNat
theorem setM_length (S : List Mk) (k : Nat) (x y : Int) : (setM S k x y).length = S.length := by simp [setM]
theorem setM_flat (x y : Int) : ∀ (S : List Mk) (k : Nat), k < S.length → flatG Mk.cs (setM S k x y) = ((flatG Mk.cs S).set (k * 3 + 1) (.int .i64 x)).set (k * 3 + 2) (.int .i64 y)
  | [], k, h => by simp at h
  | a :: l, 0, h => by simp [setM, flatG, Mk.cs]
  | a :: l, k + 1, h => by
    have ih := setM_flat x y l k (by simpa using h)
    have e1 : flatG Mk.cs (a :: l) = .int .i64 a.id :: .int .i64 a.x :: .int .i64 a.y :: flatG Mk.cs l := rfl
    have e2 : flatG Mk.cs (setM (a :: l) (k + 1) x y) = .int .i64 a.id :: .int .i64 a.x :: .int .i64 a.y :: flatG Mk.cs (setM l k x y) := by simp [setM, flatG, Mk.cs]
    rw [e1, e2, ih, show (k + 1) * 3 + 1 = k * 3 + 1 + 3 by omega, show (k + 1) * 3 + 2 = k * 3 + 2 + 3 by omega]
    simp only [List.set_cons_succ]
theorem ron_at {x y : Int} {q : Bool} (h : Hid (onB x y = q)) (w : World) : Calls Tryz.prog 55 #[pt x y] w fun e w' => e = .returned (.bool q) ∧ Below w.heap.size w w' := by
  rw [← h.out]; exact ref_on w x y
end
section
open Go.RowKit
set_option linter.unusedVariables false
def rptE (id x y : Int) (S : List Mk) : Int := if id < 0 then 11 else if onB x y = false then 14 else if 0 ≤ rfI id S then 11 else if 200 ≤ S.length then 16 else 0
/-- how many stand ahead of id -/
def ahead (id : Int) (S : List Mk) : Nat := (S.takeWhile fun s => decide (s.id < id)).length
def rptS (id x y : Int) (S : List Mk) : List Mk := if rptE id x y S = 0 then insS S (ahead id S) ⟨id, x, y⟩ else S
theorem ahead_eq {id : Int} {S : List Mk} {k : Nat} (hk : k ≤ S.length) (h1 : ∀ j a, j < k → S[j]? = some a → a.id < id) (h2 : ∀ a, S[k]? = some a → ¬ a.id < id) : ahead id S = k := by
  induction S generalizing k with
  | nil => simp [ahead] at hk ⊢; exact hk.symm
  | cons a l ih =>
    cases k with
    | zero =>
      have := h2 a rfl
      simp [ahead, this]
    | succ k =>
      have h0 : a.id < id := h1 0 a (by omega) rfl
      have := ih (k := k) (by simpa using hk) (fun j b hj hb => h1 (j + 1) b (by omega) (by simpa using hb)) (fun b hb => h2 b (by simpa using hb))
      unfold ahead at this ⊢
      rw [List.takeWhile_cons, if_pos (by simpa using h0), List.length_cons, this]
theorem set3_flat (m : Mk) : ∀ (S : List Mk) (k : Nat), k < S.length → flatG Mk.cs (S.set k m) = (((flatG Mk.cs S).set (k * 3) (.int .i64 m.id)).set (k * 3 + 1) (.int .i64 m.x)).set (k * 3 + 2) (.int .i64 m.y)
  | [], k, h => by simp at h
  | a :: l, 0, h => by simp [flatG, Mk.cs]
  | a :: l, k + 1, h => by
    have ih := set3_flat m l k (by simpa using h)
    have e1 : flatG Mk.cs (a :: l) = .int .i64 a.id :: .int .i64 a.x :: .int .i64 a.y :: flatG Mk.cs l := rfl
    have e2 : flatG Mk.cs ((a :: l).set (k + 1) m) = .int .i64 a.id :: .int .i64 a.x :: .int .i64 a.y :: flatG Mk.cs (l.set k m) := rfl
    rw [e1, e2, ih, show (k + 1) * 3 = k * 3 + 3 by omega, show k * 3 + 3 + 1 = k * 3 + 1 + 3 by omega, show k * 3 + 3 + 2 = k * 3 + 2 + 3 by omega]
    simp only [List.set_cons_succ]
theorem insS_step {α : Type} {S : List α} {j : Nat} {a x : α} (h : S[j]? = some a) : (insS S (j + 1) x).set (j + 1) a = insS S j a := by
  have hj : j < S.length := (List.getElem?_eq_some_iff.1 h).1
  have e : S[j] = a := (List.getElem?_eq_some_iff.1 h).2
  unfold insS
  have l1 : (S.take (j + 1)).length = j + 1 := by rw [List.length_take]; omega
  rw [List.set_append_right _ _ (by omega), l1, Nat.sub_self, List.set_cons_zero, List.take_add_one, h, List.drop_eq_getElem_cons hj, e]
  simp
theorem insS_set {α : Type} {S : List α} {j : Nat} (hj : j ≤ S.length) (a x : α) : (insS S j x).set j a = insS S j a := by
  unfold insS
  have l1 : (S.take j).length = j := by rw [List.length_take]; omega
  rw [List.set_append_right _ _ (by omega), l1, Nat.sub_self, List.set_cons_zero]
theorem insS_get {α : Type} {S : List α} {j : Nat} {a x : α} (h : S[j]? = some a) : (insS S (j + 1) x)[j]? = some a := by
  unfold insS
  have hj : j < S.length := (List.getElem?_eq_some_iff.1 h).1
  rw [List.getElem?_append_left (by rw [List.length_take]; omega), List.getElem?_take, if_pos (by omega)]
  exact h
theorem off_set3 (W : World) (g k : Nat) (u0 u1 u2 : Value) : Off [g] W (((W.setCell ⟨g, k, none⟩ u0).setCell ⟨g, k + 1, none⟩ u1).setCell ⟨g, k + 2, none⟩ u2) :=
  ((Off.setCell W g k u0).trans (Off.setCell _ g _ _) (fun y hy => .inl hy)).trans (Off.setCell _ g _ _) (fun y hy => .inl hy)
end
end Go.Proofs.YtfoncphdbaaedaaGreatDoor
