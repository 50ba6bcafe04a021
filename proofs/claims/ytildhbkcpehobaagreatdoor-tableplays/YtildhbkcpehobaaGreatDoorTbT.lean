/- Contracts of the package table over this translation, first part: how a table lies in memory; has, Len, Get, New. What a table holds is a row of things, rising by their numbers. No conditions beyond those typed. -/
import Derived.Test.YtildhbkcpehobaaGreatDoorTbN
import Derived.Test.YtildhbkcpehobaaGreatDoorTbQ
import Derived.Test.YtildhbkcpehobaaGreatDoorQdY
import Derived.Test.YtildhbkcpehobaaGreatDoorShf
namespace Go.Proofs.YtildhbkcpehobaaGreatDoor
open Go.RowKit
set_option linter.unusedVariables false
theorem below_set11 {B : Nat} {w w' : World} (h : Below B w w') {g : Nat} (hg : B ≤ g) (v0 v1 v2 v3 v4 v5 v6 v7 v8 v9 v10 : Value) : Below B w (((((((((((w'.setCell ⟨g, 0, none⟩ v0).setCell ⟨g, 1, none⟩ v1).setCell ⟨g, 2, none⟩ v2).setCell ⟨g, 3, none⟩ v3).setCell ⟨g, 4, none⟩ v4).setCell ⟨g, 5, none⟩ v5).setCell ⟨g, 6, none⟩ v6).setCell ⟨g, 7, none⟩ v7).setCell ⟨g, 8, none⟩ v8).setCell ⟨g, 9, none⟩ v9).setCell ⟨g, 10, none⟩ v10) :=
  ((((((((((h.setCell hg v0).setCell hg v1).setCell hg v2).setCell hg v3).setCell hg v4).setCell hg v5).setCell hg v6).setCell hg v7).setCell hg v8).setCell hg v9).setCell hg v10
abbrev tabO (bm qb : Nat) : Obj := .cells #[.map (some bm), .pointer (some ⟨qb, 0, none⟩)] 59 (0, 0)
/-- the table at tb, made behind W0: its map at bm, its tree at qb with the slice v; it holds L -/
structure TB0 (W0 W : World) (tb bm qb : Nat) (v : Value) (L : List Th) : Prop where
  at_ : W.heap[tb]? = some (tabO bm qb)
  map : OM W bm L
  tree : TS W W0.heap.size qb v (marks L)
  good : Good L
  lo : W0.heap.size ≤ tb
  lom : W0.heap.size ≤ bm
  ne1 : tb ∉ qb :: ob v
  ne2 : bm ∉ qb :: ob v
  below : Below W0.heap.size W0 W
  masks : Masks W0
/-- X: all its blocks -/
def TB (W0 W : World) (tb : Nat) (L : List Th) (X : List Nat) : Prop := ∃ bm qb v, TB0 W0 W tb bm qb v L ∧ X = tb :: bm :: qb :: ob v
/-- what a change leaves: the table holds L, beyond its own blocks nothing has turned -/
def TBT (W0 w : World) (tb : Nat) (L : List Th) (X : List Nat) (w' : World) : Prop := ∃ X', TB W0 w' tb L X' ∧ Off X w w' ∧ ∀ k, k ∈ X' → k ∈ X ∨ w.heap.size ≤ k
theorem TB0.mask {W0 W : World} {tb bm qb : Nat} {v : Value} {L : List Th} (h : TB0 W0 W tb bm qb v L) : Masks W := h.masks.below h.below
theorem TB0.zero {W0 W : World} {tb bm qb : Nat} {v : Value} {L : List Th} (h : TB0 W0 W tb bm qb v L) : 0 < W0.heap.size := World.block_lt_of_cell? W0 ⟨0, 0, none⟩ h.masks.1
theorem TB0.len9 {W0 W : World} {tb bm qb : Nat} {v : Value} {L : List Th} (h : TB0 W0 W tb bm qb v L) : (marks L).length ≤ 999 := by rw [marks_length]; have := h.good.len; omega
theorem TB0.later {W0 W W' : World} {tb bm qb : Nat} {v : Value} {L : List Th} (h : TB0 W0 W tb bm qb v L) (hb : Below W.heap.size W W') : TB0 W0 W' tb bm qb v L :=
  ⟨var_on hb h.at_ (lt_of_at h.at_), h.map.later hb, h.tree.later hb, h.good, h.lo, h.lom, h.ne1, h.ne2, h.below.trans (hb.mono h.below.size), h.masks⟩
theorem TB0.lt {W0 W : World} {tb bm qb : Nat} {v : Value} {L : List Th} (h : TB0 W0 W tb bm qb v L) : ∀ k, k ∈ tb :: bm :: qb :: ob v → W0.heap.size ≤ k ∧ k < W.heap.size := by
  intro k hk
  rcases List.mem_cons.1 hk with rfl | hk
  · exact ⟨h.lo, lt_of_at h.at_⟩
  · rcases List.mem_cons.1 hk with rfl | hk
    · exact ⟨h.lom, h.map.lt⟩
    · exact h.tree.lt k hk
theorem TB0.off {W0 W W' : World} {tb bm qb : Nat} {v : Value} {L : List Th} {Y : List Nat} (h : TB0 W0 W tb bm qb v L) (ho : Off Y W W') (hx : ∀ k, k ∈ tb :: bm :: qb :: ob v → k ∉ Y) (hy : ∀ k, k ∈ Y → W0.heap.size ≤ k) : TB0 W0 W' tb bm qb v L :=
  ⟨at_off h.at_ ho (hx _ (by simp)), h.map.off ho (hx _ (by simp)), h.tree.off ho (fun k hk => hx k (List.mem_cons_of_mem _ (List.mem_cons_of_mem _ hk))), h.good, h.lo, h.lom, h.ne1, h.ne2, h.below.trans (ho.below h.below.size hy), h.masks⟩
theorem TB.later {W0 W W' : World} {tb : Nat} {L : List Th} {X : List Nat} (h : TB W0 W tb L X) (hb : Below W.heap.size W W') : TB W0 W' tb L X := by
  obtain ⟨bm, qb, v, h1, h2⟩ := h
  exact ⟨bm, qb, v, h1.later hb, h2⟩
theorem TB.lt {W0 W : World} {tb : Nat} {L : List Th} {X : List Nat} (h : TB W0 W tb L X) : ∀ k, k ∈ X → W0.heap.size ≤ k ∧ k < W.heap.size := by
  obtain ⟨bm, qb, v, h1, rfl⟩ := h
  exact h1.lt
theorem TB.off {W0 W W' : World} {tb : Nat} {L : List Th} {X Y : List Nat} (h : TB W0 W tb L X) (ho : Off Y W W') (hx : ∀ k, k ∈ X → k ∉ Y) (hy : ∀ k, k ∈ Y → W0.heap.size ≤ k) : TB W0 W' tb L X := by
  obtain ⟨bm, qb, v, h1, rfl⟩ := h
  exact ⟨bm, qb, v, h1.off ho hx hy, rfl⟩
theorem TB.good {W0 W : World} {tb : Nat} {L : List Th} {X : List Nat} (h : TB W0 W tb L X) : Good L := by
  obtain ⟨bm, qb, v, h1, h2⟩ := h
  exact h1.good
theorem TB.below {W0 W : World} {tb : Nat} {L : List Th} {X : List Nat} (h : TB W0 W tb L X) : Below W0.heap.size W0 W := by
  obtain ⟨bm, qb, v, h1, h2⟩ := h
  exact h1.below
theorem TB.mask {W0 W : World} {tb : Nat} {L : List Th} {X : List Nat} (h : TB W0 W tb L X) : Masks W := by
  obtain ⟨bm, qb, v, h1, h2⟩ := h
  exact h1.mask
theorem TBT.below {W0 w w' : World} {tb : Nat} {L L' : List Th} {X : List Nat} (h : TB W0 w tb L X) (ht : TBT W0 w tb L' X w') : Below W0.heap.size W0 w' := by
  obtain ⟨X', h1, _⟩ := ht
  exact h1.below
theorem TS.base {W : World} {b b' tb : Nat} {v : Value} {L : List Mk} (h : TS W b tb v L) (hb : b' ≤ b) : TS W b' tb v L := by
  obtain ⟨S, h1, h2⟩ := h
  exact ⟨S, ⟨h1.at_, h1.own.mono hb, h1.ne, Nat.le_trans hb h1.lo⟩, h2⟩
/-- a table that was made behind W1, itself behind W0 -/
theorem TB.base {W0 W1 W : World} {tb : Nat} {L : List Th} {X : List Nat} (h : TB W1 W tb L X) (hb : Below W0.heap.size W0 W1) (hM : Masks W0) : TB W0 W tb L X := by
  obtain ⟨bm, qb, v, h1, h2⟩ := h
  have hs := hb.size
  exact ⟨bm, qb, v, ⟨h1.at_, h1.map, h1.tree.base hs, h1.good, Nat.le_trans hs h1.lo, Nat.le_trans hs h1.lom, h1.ne1, h1.ne2, hb.trans (h1.below.mono hs), hM⟩, h2⟩
theorem tb_has {W0 w : World} {tb : Nat} {L : List Th} {X : List Nat} (h : TB W0 w tb L X) {id : Int} (hi : inI id) {q : Bool} (hq : Hid (hasT id L = q)) :
    Calls Tryz.prog 28 #[.pointer (some ⟨tb, 0, none⟩), .int .i64 id] w fun e w' => e = .returned (.bool q) ∧ Below w.heap.size w w' := by
  obtain ⟨bm, qb, v, h, rfl⟩ := h
  obtain ⟨t, ht⟩ : ∃ t, Hid ((findT id L).getD zT = t) := ⟨_, rfl⟩
  have HM := hid h.map
  have c := cells_at h.at_
  clear h
  go_enter Tryz.func28, Tryz.ntmps28
  go_wp2_with (at_lookup; refine wp_look rfl _ _ rfl rfl HM.out rfl hi ht hq ?_)
  go_ret
  exact ⟨rfl, below1 _ t.o⟩
theorem tb_len {W0 w : World} {tb : Nat} {L : List Th} {X : List Nat} (h : TB W0 w tb L X) {n : Nat} (hn : Hid (L.length = n)) :
    Calls Tryz.prog 20 #[.pointer (some ⟨tb, 0, none⟩)] w fun e w' => e = .returned (.int .i64 (n : Nat)) ∧ w' = w := by
  obtain ⟨bm, qb, v, h, rfl⟩ := h
  have HM := hid h.map
  have c := cells_at h.at_
  clear h
  go_enter Tryz.func20, Tryz.ntmps20
  go_wp2_with (at_len; refine wp_len rfl _ rfl rfl HM.out hn ?_)
  go_ret
  exact ⟨rfl, rfl⟩
set_option maxHeartbeats 1000000 in
theorem tb_get {W0 w : World} {tb : Nat} {L : List Th} {X : List Nat} (h : TB W0 w tb L X) {id : Int} (hi : inI id) {t : Th} {q : Bool} (ht : Hid ((findT id L).getD zT = t)) (hq : Hid (hasT id L = q)) :
    Calls Tryz.prog 19 #[.pointer (some ⟨tb, 0, none⟩), .int .i64 id] w fun e w' => e = .returned (.tuple #[t.v, .bool q]) ∧ Below w.heap.size w w' := by
  obtain ⟨bm, qb, v, h, rfl⟩ := h
  obtain ⟨W1, hW1⟩ : ∃ W1, w.alloc zT.o = W1 := ⟨_, rfl⟩
  have hB1 : Below w.heap.size w W1 := by rw [← hW1]; exact below1 _ _
  have HM := hid (h.map.later hB1)
  have K0 := hid (show W1.heap[w.heap.size]? = some zT.o by rw [← hW1]; exact new_at _ _ _ rfl)
  have c := cells_at (var_on hB1 h.at_ (lt_of_at h.at_))
  clear h
  go_enter Tryz.func19, Tryz.ntmps19
  obtain ⟨Q, hQ0⟩ : ∃ Q, bodyPost Tryz.prog Tryz.f19 (fun y w' => y = .returned (.tuple #[t.v, .bool q]) ∧ Below w.heap.size w w') = Q := ⟨_, rfl⟩
  rw [hQ0]
  have HQ := hid hQ0
  clear hQ0
  go_upto_region 1 with fail
  unfold Th.o zT zF at hW1
  simp only at hW1
  rw [hW1]
  clear hW1
  have c0 := cells_at K0.out
  have l0 := at_lt K0.out
  go_wp2_with (at_lookup; refine wp_look rfl _ _ rfl rfl HM.out rfl hi ht hq ?_)
  have hq0 := HQ.out
  subst hq0
  exact bodyPost_ret (v := .tuple #[t.v, .bool q]) (by simp [results, Tryz.results19, go_sem, c0, l0]) rfl ⟨rfl, (below_set11 hB1 (by omega) _ _ _ _ _ _ _ _ _ _ _).alloc (by simp; omega) _⟩
theorem tb_new {w : World} (hM : Masks w) : Calls Tryz.prog 5 #[] w fun e w' => ∃ tb X, e = .returned (.pointer (some ⟨tb, 0, none⟩)) ∧ TB w w' tb [] X := by
  obtain ⟨W1, hW1⟩ : ∃ W1, w.alloc (.map #[] 0) = W1 := ⟨_, rfl⟩
  have hB1 : Below w.heap.size w W1 := by rw [← hW1]; exact below1 _ _
  have hO : OM W1 w.heap.size [] := by rw [← hW1]; exact om_made w
  have HS : W1.heap.size = w.heap.size + 1 := by rw [← hW1]; simp
  have HO := hid hO
  have C := ts_new W1
  have hmm := @run_makeMap Tryz.prog
  clear hO
  go_enter Tryz.func5, Tryz.ntmps5
  go_wp2_with fail
  clear hW1
  refine C.mono ?_
  rintro x W2 ⟨rfl, hT, hb2⟩
  rw [HS] at hT
  have HT := hid hT
  have hB2 := below_on hB1 hb2
  have HO2 := hid (HO.out.later hb2)
  have hlt := hid hT.lt
  have hs := hb2.size
  clear hT C
  go_wp2_with fail
  go_ret
  refine ⟨_, _, rfl, w.heap.size, w.heap.size + 1, .slice none 0 0, ⟨new_at _ _ _ rfl, HO2.out.later (below1 _ _), ?_, .nil, by have := hB2.size; omega, Nat.le_refl _, ?_, ?_, hB2.alloc (by omega) _, hM⟩, rfl⟩
  · exact (HT.out.later (below1 _ _)).base (Nat.le_succ _)
  · intro hm
    have := (hlt.out _ hm).2
    omega
  · intro hm
    have := (hlt.out _ hm).1
    omega
end Go.Proofs.YtildhbkcpehobaaGreatDoor
