/- Contracts of add and remove over this translation: the tree behind each; nothing else that was there is changed. -/
import Derived.Test.YtildhbkcpehobaaGreatDoorQdK
namespace Go.Proofs.YtildhbkcpehobaaGreatDoor
open Go.RowKit
set_option linter.unusedVariables false
theorem Off.setCell (w : World) (b i : Nat) (u : Value) : Off [b] w (w.setCell ⟨b, i, none⟩ u) :=
  ⟨rfl, rfl, rfl, by simp [World.setCell], fun k hk hx => Below.heap_setCell _ _ _ _ (by simpa using hx)⟩
theorem Tr.stored {w w1 : World} {base tb : Nat} {v v' : Value} {S S' : List Sp} (h : Tr w base tb v S) (ho : w1.ownsRow base 82 2 v' S'.length (flatG Sp.cs S')) (hg : w.grownBy w1 v.ownBlock) (hv : ∀ k, v'.ownBlock = some k → v.ownBlock = some k ∨ w.heap.size ≤ k) :
    Tr (w1.setCell ⟨tb, 0, none⟩ v') base tb v' S' ∧ Off (tb :: ob v) w (w1.setCell ⟨tb, 0, none⟩ v') := by
  have hlt := lt_of_at h.at_
  have hne : some tb ≠ v.ownBlock := fun e => h.ne (mem_ob.2 e.symm)
  have h1 : w1.heap[tb]? = some (.cells #[v] 77 (0, 0)) := by rw [hg.block tb hlt hne]; exact h.at_
  have hne' : tb ∉ ob v' := fun hm => by
    rcases hv tb (mem_ob.1 hm) with e | e
    · exact hne e.symm
    · omega
  refine ⟨⟨set_at h1 v' rfl, owns_off ho (Off.setCell w1 tb 0 v') (fun k hk hx => ?_), hne', h.lo⟩, ?_⟩
  · rw [List.mem_singleton.1 hx] at hk
    exact hne' hk
  · refine (Off.grown hg (X := tb :: ob v) (fun k hk => List.mem_cons_of_mem _ (mem_ob.2 hk))).trans (Off.setCell w1 tb 0 v') (fun y hy => .inl ?_)
    rw [List.mem_singleton.1 hy]
    exact List.mem_cons_self
/-- what a change of a tree leaves -/
def Turned (w : World) (base tb : Nat) (v : Value) (S' : List Sp) (w' : World) : Prop := ∃ v', Tr w' base tb v' S' ∧ Off (tb :: ob v) w w' ∧ (∀ k, k ∈ ob v' → k ∈ ob v ∨ w.heap.size ≤ k)
set_option maxHeartbeats 1000000 in
theorem tree_remove {w : World} {base tb : Nat} {v : Value} {S : List Sp} (h : Tr w base tb v S) (hl : S.length ≤ 1000) (i : Nat) (hi : i < S.length) :
    Calls Tryz.prog 48 #[.pointer (some ⟨tb, 0, none⟩), .int .i64 (i : Nat)] w fun e w' => e = .returned (.tuple #[]) ∧ Turned w base tb v (delS S i) w' := by
  have C := delete_at h.own hl hi
  have hcell := cells_at h.at_
  obtain ⟨p, c, rfl⟩ := owns_slice h.own
  have HT := hid h
  have hcast : ((i : Int) + 1) = ((i + 1 : Nat) : Int) := by omega
  rw [show ((i + 1 : Nat) : Int) = (i : Int) + 1 by omega] at C
  have hi2 : i ≤ 1000 := by omega
  clear h hcast
  obtain ⟨n, hn⟩ : ∃ n, Hid (S.length = n) := ⟨_, rfl⟩
  rw [hn.out] at C hcell HT ⊢
  go_enter Tryz.func48, Tryz.ntmps48
  go_wp2_with fail
  refine C.mono ?_
  rintro x W1 ⟨v', rfl, hown, hg, hob⟩
  clear C
  have hT := HT.out
  obtain ⟨p', c', rfl⟩ := owns_slice hown
  have hfin := hT.stored hown hg (fun k hk => .inl (by rw [← hob]; exact hk))
  have hlt := lt_of_at hT.at_
  have hne : some tb ≠ (Value.slice p n c).ownBlock := fun e => hT.ne (mem_ob.2 e.symm)
  have hcell1 := cells_at (show W1.heap[tb]? = some (.cells #[.slice p n c] 77 (0, 0)) by rw [hg.block tb hlt hne]; exact hT.at_)
  clear hg hown hT hcell HT
  go_wp2
  first | go_end0 | skip
  refine ⟨rfl, _, hfin.1, hfin.2, fun k hk => .inl ?_⟩
  rw [mem_ob] at hk ⊢
  rw [← hob]; exact hk
def addS (id : Int) (x y : Nat) (S : List Sp) : List Sp := insS S (firstN (weave x y) S) ⟨id, weave x y⟩
theorem below_drew {B : Nat} {a w : World} (h : Below B a w) : Below B a w.drew := h.drew
set_option maxHeartbeats 4000000 in
theorem tree_add {w : World} {base tb : Nat} {v : Value} {S : List Sp} (h : Tr w base tb v S) (hl : S.length ≤ 999) (hS : Rising S) (hM : Masks w) (id : Int) (x y : Nat) (hx : x < 64) (hy : y < 64) (hbase : base ≤ w.heap.size) :
    Calls Tryz.prog 47 #[.pointer (some ⟨tb, 0, none⟩), .int .i64 id, .agg #[.int .i64 (x : Nat), .int .i64 (y : Nat)]] w fun e w' => e = .returned (.tuple #[]) ∧ Turned w base tb v (addS id x y S) w' := by
  obtain ⟨W0, hW0⟩ : ∃ W0, W0 = w.alloc (.cells #[.int .i64 (x : Nat), .int .i64 (y : Nat)] 28) := ⟨_, rfl⟩
  have hB0 : Below w.heap.size w W0 := by rw [hW0]; exact below1 _ _
  have HT := hid (h.later hB0)
  have HM := hid (hM.below hB0)
  have C0 := weave_at x y (by omega) (by omega) W0 HM.out
  obtain ⟨c, hc⟩ : ∃ c, Hid (weave x y = c) := ⟨_, rfl⟩
  have hcl : c < 4294967296 := by rw [← hc.out]; exact weave_lt x y
  have hres : addS id x y S = insS S (firstN c S) ⟨id, c⟩ := by unfold addS; rw [hc.out]
  rw [hres]
  rw [hc.out] at C0
  obtain ⟨k, hk⟩ : ∃ k, Hid (firstN c S = k) := ⟨_, rfl⟩
  have hkl : k ≤ S.length := by rw [← hk.out]; exact firstN_le c S
  rw [hk.out]
  clear hres h hM
  have x1 : (x : Int) % 65536 = (x : Int) := by omega
  have y1 : (y : Int) % 65536 = (y : Int) := by omega
  go_enter Tryz.func47, Tryz.ntmps47
  go_wp2_with fail
  rw [← hW0]
  clear hW0
  refine C0.mono ?_
  rintro z W1 ⟨rfl, h1⟩
  rw [h1]
  clear h1 W1 C0
  have C1 : Hid (∀ W, Below W0.heap.size W0 W → Calls Tryz.prog 66 #[.pointer (some ⟨tb, 0, none⟩), .int .u32 (c : Nat)] W fun e w' => e = .returned (.int .i64 (k : Nat)) ∧ Below W.heap.size W w') := fun W hW => by
    have := tree_first (HT.out.later hW) (by omega) hS c
    rw [hk.out] at this
    exact this
  have hbs : base ≤ W0.heap.size := by have := hB0.size; omega
  have NB : Hid (∀ b, W0.heap.size ≤ b → v.ownBlock ≠ some b) := fun b hb e => by
    have := (HT.out.own.lt b e).2
    omega
  have C2 : Hid (∀ W vb, Below W0.heap.size W0 W → W0.heap.size ≤ vb → W.heap[vb]? = some (.cells #[.int .i64 id, .int .u32 (c : Nat)] 82 (0, 0)) → Calls Tryz.prog 65 #[v, .int .i64 (k : Nat), .slice (some ⟨vb, 0, none⟩) 1 1] W fun e w' => ∃ g' cap', e = .returned (.slice (some ⟨g', 0, none⟩) (S.length + 1) cap') ∧ w'.heap[tb]? = some (.cells #[v] 77 (0, 0)) ∧ Turned w base tb v (insS S k ⟨id, c⟩) (w'.setCell ⟨tb, 0, none⟩ (.slice (some ⟨g', 0, none⟩) (S.length + 1) cap'))) := fun W vb hW hvb hat => by
    have hT := HT.out.later hW
    have hsz := hW.size
    refine (insert_at (s := ⟨id, c⟩) hT.own (by omega) hkl hat (NB.out vb hvb) (by omega)).mono ?_
    rintro z w2 ⟨g', cap', rfl, hown, hg, hor⟩
    have hlt := lt_of_at hT.at_
    have hne : some tb ≠ v.ownBlock := fun e => hT.ne (mem_ob.2 e.symm)
    have hfin := hT.stored (S' := insS S k ⟨id, c⟩) (v' := .slice (some ⟨g', 0, none⟩) (S.length + 1) cap') (by rw [insS_length hkl]; exact hown) hg (fun b hb => by
      have e : g' = b := Option.some.inj hb
      rw [← e]; exact hor)
    refine ⟨g', cap', rfl, by rw [hg.block tb hlt hne]; exact hT.at_, _, hfin.1, ?_, fun b hb => ?_⟩
    · exact (Off.of_below (below_on hB0 hW) (tb :: ob v)).trans hfin.2 (fun y hy => .inl hy)
    · have e : g' = b := Option.some.inj (mem_ob.1 hb)
      rw [← e, mem_ob]
      have := hB0.size
      exact hor.imp (fun h => h) (fun h => by omega)
  have hcell := cells_at HT.out.at_
  obtain ⟨p, cv, rfl⟩ := owns_slice HT.out.own
  clear hbs NB
  have HT2 := HT
  clear HT
  have hlt0 : tb < W0.heap.size := lt_of_at HT2.out.at_
  have hne0 : tb ≠ W0.heap.size := by omega
  go_wp2_with fail
  go_region_with (first
    | (go_at_call 66; refine (C1.out _ (by first | exact (Below.refl _ _).drew | exact (below1 _ _).drew)).mono ?_; rintro z w1 ⟨rfl, hb1⟩
       have hBx : Below W0.heap.size W0 w1 := (by first | exact below_on (Below.refl _ W0).drew hb1 | exact below_on (below1 W0 (.cells #[.int .i64 id, .int .u32 (c : Nat)] 82)).drew hb1)
       have hcx := cells_at (var_on hBx HT2.out.at_ (lt_of_at HT2.out.at_))
       have hlx : tb < w1.heap.size := Nat.lt_of_lt_of_le hlt0 hBx.size
       have hnx : tb ≠ w1.heap.size := Nat.ne_of_lt hlx)
    | (go_at_call 65; have D := C2.out (w1.alloc (.cells #[.int .i64 id, .int .u32 (c : Nat)] 82)) w1.heap.size (hBx.alloc hBx.size _) hBx.size (new_at _ _ _ rfl); (first | (with_reducible refine D.mono ?_) | (have DB := C2.out w1 W0.heap.size hBx (Nat.le_refl _) (var_on hb1 (show (W0.alloc (.cells #[.int .i64 id, .int .u32 (c : Nat)] 82)).drew.heap[W0.heap.size]? = some (.cells #[.int .i64 id, .int .u32 (c : Nat)] 82 (0, 0)) from new_at W0 _ _ rfl) (by show W0.heap.size < (W0.alloc _).heap.size; rw [World.size_alloc]; omega)); with_reducible refine DB.mono ?_; clear DB)); clear D; rintro z w2 ⟨g', cap', rfl, hcy, hfin⟩
       have hcz := cells_at hcy))
  all_goals
    go_wp2
    first | go_end0 | skip
    exact ⟨rfl, hfin⟩
end Go.Proofs.YtildhbkcpehobaaGreatDoor
