/- The tree's contracts over this translation, in the document's terms: what a tree holds is a row of marks by their numbers. Each call returns what the document's tree would, and leaves the rest as it was. -/
import Derived.Test.YtildhbkcpehobaaGreatDoorQdX
namespace Go.Proofs.YtildhbkcpehobaaGreatDoor
open Go.RowKit
set_option linter.unusedVariables false
/-- the tree at tb, its slice being v, holds the marks L -/
def TS (W : World) (base tb : Nat) (v : Value) (L : List Mk) : Prop := ∃ S, Tr W base tb v S ∧ Sim S L
def TTurned (w : World) (base tb : Nat) (v : Value) (L : List Mk) (w' : World) : Prop := ∃ v', TS w' base tb v' L ∧ Off (tb :: ob v) w w' ∧ (∀ k, k ∈ ob v' → k ∈ ob v ∨ w.heap.size ≤ k)
theorem TTurned.of {w w' : World} {base tb : Nat} {v : Value} {S : List Sp} {L : List Mk} (h : Turned w base tb v S w') (hs : Sim S L) : TTurned w base tb v L w' := by
  obtain ⟨v', h1, h2, h3⟩ := h
  exact ⟨v', ⟨S, h1, hs⟩, h2, h3⟩
theorem TS.later {W W' : World} {base tb : Nat} {v : Value} {L : List Mk} (h : TS W base tb v L) (hb : Below W.heap.size W W') : TS W' base tb v L := by
  obtain ⟨S, h1, h2⟩ := h
  exact ⟨S, h1.later hb, h2⟩
theorem TS.off {W W' : World} {base tb : Nat} {v : Value} {L : List Mk} {X : List Nat} (h : TS W base tb v L) (ho : Off X W W') (hx : ∀ k, k ∈ tb :: ob v → k ∉ X) : TS W' base tb v L := by
  obtain ⟨S, h1, h2⟩ := h
  exact ⟨S, h1.off ho hx, h2⟩
theorem TS.lt {W : World} {base tb : Nat} {v : Value} {L : List Mk} (h : TS W base tb v L) : ∀ k, k ∈ tb :: ob v → base ≤ k ∧ k < W.heap.size := by
  obtain ⟨S, h1, h2⟩ := h
  intro k hk
  rcases List.mem_cons.1 hk with rfl | hk
  · exact ⟨h1.lo, lt_of_at h1.at_⟩
  · exact h1.own.lt k (mem_ob.1 hk)
theorem ts_put {w : World} {base tb : Nat} {v : Value} {L : List Mk} (h : TS w base tb v L) (hl : L.length ≤ 999) (hM : Masks w) (hbase : base ≤ w.heap.size) (id x y : Int) :
    Calls Tryz.prog 29 #[.pointer (some ⟨tb, 0, none⟩), .int .i64 id, pt x y] w fun e w' => e = .returned (.int .i64 (rptE id x y L)) ∧ TTurned w base tb v (rptS id x y L) w' := by
  obtain ⟨S, h1, h2⟩ := h
  refine (tree_put h1 (by rw [h2.len]; exact hl) h2.rise hM hbase id x y).mono ?_
  rintro e w' ⟨rfl, hT⟩
  exact ⟨by rw [h2.putE], TTurned.of hT (h2.put id x y)⟩
theorem ts_move {w : World} {base tb : Nat} {v : Value} {L : List Mk} (h : TS w base tb v L) (hl : L.length ≤ 999) (hM : Masks w) (hbase : base ≤ w.heap.size) (h0 : 0 < base) (id x y : Int) :
    Calls Tryz.prog 32 #[.pointer (some ⟨tb, 0, none⟩), .int .i64 id, pt x y] w fun e w' => e = .returned (.int .i64 (rmvE id x y L)) ∧ TTurned w base tb v (rmvS id x y L) w' := by
  obtain ⟨S, h1, h2⟩ := h
  refine (tree_move h1 (by rw [h2.len]; exact hl) h2.rise hM hbase h0 id x y).mono ?_
  rintro e w' ⟨rfl, hT⟩
  exact ⟨by rw [h2.movE], TTurned.of hT (h2.move id x y)⟩
theorem ts_drop {w : World} {base tb : Nat} {v : Value} {L : List Mk} (h : TS w base tb v L) (hl : L.length ≤ 999) (id : Int) :
    Calls Tryz.prog 33 #[.pointer (some ⟨tb, 0, none⟩), .int .i64 id] w fun e w' => e = .returned (.int .i64 (rdrE id L)) ∧ TTurned w base tb v (rdrS id L) w' := by
  obtain ⟨S, h1, h2⟩ := h
  refine (tree_drop h1 (by rw [h2.len]; omega) id).mono ?_
  rintro e w' ⟨rfl, hT⟩
  exact ⟨by rw [h2.drpE], TTurned.of hT (h2.drop id)⟩
theorem ts_in {w : World} {base tb : Nat} {v : Value} {L : List Mk} (h : TS w base tb v L) (hl : L.length ≤ 999) (hM : Masks w) (r0 r1 r2 r3 : Int) :
    Calls Tryz.prog 40 #[.pointer (some ⟨tb, 0, none⟩), rc r0 r1 r2 r3] w fun e w' => ∃ p cap, e = .returned (.slice p (rinL L ⟨r0, r1, r2, r3⟩).length cap) ∧ w'.ownsRow w.heap.size 3 1 (.slice p (rinL L ⟨r0, r1, r2, r3⟩).length cap) (rinL L ⟨r0, r1, r2, r3⟩).length (flatG cI (rinL L ⟨r0, r1, r2, r3⟩)) ∧ Below w.heap.size w w' := by
  obtain ⟨S, h1, h2⟩ := h
  have := tree_in h1 (by rw [h2.len]; omega) h2.rise hM (fun p hp => by have := h2.code p hp; omega) r0 r1 r2 r3
  rw [h2.in] at this
  exact this
theorem ts_len {w : World} {base tb : Nat} {v : Value} {L : List Mk} (h : TS w base tb v L) :
    Calls Tryz.prog 46 #[.pointer (some ⟨tb, 0, none⟩)] w fun e w' => e = .returned (.int .i64 (L.length : Nat)) ∧ w' = w := by
  obtain ⟨S, h1, h2⟩ := h
  have := tree_len h1
  rw [h2.len] at this
  exact this
theorem ts_copy {w : World} {base tb : Nat} {v : Value} {L : List Mk} (h : TS w base tb v L) (hl : L.length ≤ 999) :
    Calls Tryz.prog 26 #[.pointer (some ⟨tb, 0, none⟩)] w fun e w' => ∃ cb v', e = .returned (.pointer (some ⟨cb, 0, none⟩)) ∧ TS w' w.heap.size cb v' L ∧ Below w.heap.size w w' := by
  obtain ⟨S, h1, h2⟩ := h
  refine (tree_copy h1 (by rw [h2.len]; omega)).mono ?_
  rintro e w' ⟨cb, v', rfl, hT, hb⟩
  exact ⟨cb, v', rfl, ⟨S, hT, h2⟩, hb⟩
theorem ts_new (w : World) : Calls Tryz.prog 23 #[] w fun e w' => e = .returned (.pointer (some ⟨w.heap.size, 0, none⟩)) ∧ TS w' w.heap.size w.heap.size (.slice none 0 0) [] ∧ Below w.heap.size w w' := by
  refine (tree_new w).mono ?_
  rintro e w' ⟨rfl, hT, hb⟩
  exact ⟨rfl, ⟨[], hT, .nil⟩, hb⟩
/-- a tree made behind W0; the blocks K are none of its own -/
structure TF (W0 W : World) (tb : Nat) (L : List Mk) (K : List Nat) : Prop where
  has : ∃ v, TS W W0.heap.size tb v L ∧ ∀ k, k ∈ K → k < W.heap.size ∧ k ∉ tb :: ob v
  below : Below W0.heap.size W0 W
  masks : Masks W0
theorem TF.zero {W0 W : World} {tb : Nat} {L : List Mk} {K : List Nat} (h : TF W0 W tb L K) : 0 < W0.heap.size := World.block_lt_of_cell? W0 ⟨0, 0, none⟩ h.masks.1
theorem TF.mask {W0 W : World} {tb : Nat} {L : List Mk} {K : List Nat} (h : TF W0 W tb L K) : Masks W := h.masks.below h.below
theorem TF.later {W0 W W' : World} {tb : Nat} {L : List Mk} {K : List Nat} (h : TF W0 W tb L K) (hb : Below W.heap.size W W') : TF W0 W' tb L K := by
  obtain ⟨v, h1, h2⟩ := h.has
  exact ⟨⟨v, h1.later hb, fun k hk => ⟨Nat.lt_of_lt_of_le (h2 k hk).1 hb.size, (h2 k hk).2⟩⟩, h.below.trans (hb.mono h.below.size), h.masks⟩
theorem TF.also {W0 W W' : World} {tb : Nat} {L : List Mk} {K : List Nat} (h : TF W0 W tb L K) (hb : Below W.heap.size W W') {g : Nat} (h1 : W.heap.size ≤ g) (h2 : g < W'.heap.size) : TF W0 W' tb L (g :: K) := by
  obtain ⟨v, h3, h4⟩ := (h.later hb).has
  obtain ⟨v', h5, h6⟩ := h.has
  refine ⟨⟨v', h5.later hb, fun k hk => ?_⟩, (h.later hb).below, h.masks⟩
  rcases List.mem_cons.1 hk with rfl | hk
  · exact ⟨h2, fun hm => by have := (h5.lt k hm).2; omega⟩
  · exact ⟨Nat.lt_of_lt_of_le (h6 k hk).1 hb.size, (h6 k hk).2⟩
theorem TF.less {W0 W : World} {tb : Nat} {L : List Mk} {K : List Nat} (h : TF W0 W tb L K) : TF W0 W tb L [] := by
  obtain ⟨v, h1, h2⟩ := h.has
  exact ⟨⟨v, h1, fun k hk => by cases hk⟩, h.below, h.masks⟩
def Kept (K : List Nat) (w w' : World) : Prop := ∀ k, k ∈ K → w'.heap[k]? = w.heap[k]?
theorem TF.turned {W0 w w' : World} {tb : Nat} {v : Value} {L L' : List Mk} {K : List Nat} (h : TF W0 w tb L K) (hv : TS w W0.heap.size tb v L) (hk : ∀ k, k ∈ K → k < w.heap.size ∧ k ∉ tb :: ob v) (ht : TTurned w W0.heap.size tb v L' w') : TF W0 w' tb L' K ∧ Kept K w w' := by
  obtain ⟨v', h1, h2, h3⟩ := ht
  refine ⟨⟨⟨v', h1, fun k hkk => ?_⟩, h.below.trans (h2.below h.below.size (fun x hx => (hv.lt x hx).1)), h.masks⟩, fun k hkk => h2.block k (hk k hkk).1 (hk k hkk).2⟩
  obtain ⟨a, b⟩ := hk k hkk
  refine ⟨Nat.lt_of_lt_of_le a h2.size, fun hm => ?_⟩
  rcases List.mem_cons.1 hm with rfl | hm
  · exact b List.mem_cons_self
  · rcases h3 k hm with hh | hh
    · exact b (List.mem_cons_of_mem _ hh)
    · omega
theorem tf_new {w : World} (hM : Masks w) : Calls Tryz.prog 23 #[] w fun e w' => e = .returned (.pointer (some ⟨w.heap.size, 0, none⟩)) ∧ TF w w' w.heap.size [] [] := by
  refine (ts_new w).mono ?_
  rintro e w' ⟨rfl, hT, hb⟩
  exact ⟨rfl, ⟨⟨_, hT, fun k hk => by cases hk⟩, hb, hM⟩⟩
theorem tf_put {W0 w : World} {tb : Nat} {L : List Mk} {K : List Nat} (h : TF W0 w tb L K) (hl : L.length ≤ 999) (id x y : Int) :
    Calls Tryz.prog 29 #[.pointer (some ⟨tb, 0, none⟩), .int .i64 id, pt x y] w fun e w' => e = .returned (.int .i64 (rptE id x y L)) ∧ TF W0 w' tb (rptS id x y L) K ∧ Kept K w w' := by
  obtain ⟨v, h1, h2⟩ := h.has
  refine (ts_put h1 hl h.mask h.below.size id x y).mono ?_
  rintro e w' ⟨rfl, hT⟩
  exact ⟨rfl, h.turned h1 h2 hT⟩
theorem tf_move {W0 w : World} {tb : Nat} {L : List Mk} {K : List Nat} (h : TF W0 w tb L K) (hl : L.length ≤ 999) (id x y : Int) :
    Calls Tryz.prog 32 #[.pointer (some ⟨tb, 0, none⟩), .int .i64 id, pt x y] w fun e w' => e = .returned (.int .i64 (rmvE id x y L)) ∧ TF W0 w' tb (rmvS id x y L) K ∧ Kept K w w' := by
  obtain ⟨v, h1, h2⟩ := h.has
  refine (ts_move h1 hl h.mask h.below.size h.zero id x y).mono ?_
  rintro e w' ⟨rfl, hT⟩
  exact ⟨rfl, h.turned h1 h2 hT⟩
theorem tf_drop {W0 w : World} {tb : Nat} {L : List Mk} {K : List Nat} (h : TF W0 w tb L K) (hl : L.length ≤ 999) (id : Int) :
    Calls Tryz.prog 33 #[.pointer (some ⟨tb, 0, none⟩), .int .i64 id] w fun e w' => e = .returned (.int .i64 (rdrE id L)) ∧ TF W0 w' tb (rdrS id L) K ∧ Kept K w w' := by
  obtain ⟨v, h1, h2⟩ := h.has
  refine (ts_drop h1 hl id).mono ?_
  rintro e w' ⟨rfl, hT⟩
  exact ⟨rfl, h.turned h1 h2 hT⟩
theorem tf_in {W0 w : World} {tb : Nat} {L : List Mk} {K : List Nat} (h : TF W0 w tb L K) (hl : L.length ≤ 999) (r0 r1 r2 r3 : Int) {M : List Int} (hM : Hid (rinL L ⟨r0, r1, r2, r3⟩ = M)) :
    Calls Tryz.prog 40 #[.pointer (some ⟨tb, 0, none⟩), rc r0 r1 r2 r3] w fun e w' => ∃ p cap, e = .returned (.slice p M.length cap) ∧ w'.ownsRow w.heap.size 3 1 (.slice p M.length cap) M.length (flatG cI M) ∧ Below w.heap.size w w' := by
  obtain ⟨v, h1, h2⟩ := h.has
  rw [← hM.out]
  exact ts_in h1 hl h.mask r0 r1 r2 r3
theorem tf_len {W0 w : World} {tb : Nat} {L : List Mk} {K : List Nat} (h : TF W0 w tb L K) {n : Nat} (hn : Hid (L.length = n)) :
    Calls Tryz.prog 46 #[.pointer (some ⟨tb, 0, none⟩)] w fun e w' => e = .returned (.int .i64 (n : Nat)) ∧ w' = w := by
  obtain ⟨v, h1, h2⟩ := h.has
  rw [← hn.out]
  exact ts_len h1
/-- how deep the document's tree is -/
def dep (L : List Mk) : Nat := rdp L 4 ⟨0, 0, 64, 64⟩ 0
theorem tf_copy {W0 w : World} {tb : Nat} {L : List Mk} {K : List Nat} (h : TF W0 w tb L K) (hl : L.length ≤ 999) :
    Calls Tryz.prog 26 #[.pointer (some ⟨tb, 0, none⟩)] w fun e w' => ∃ cb, e = .returned (.pointer (some ⟨cb, 0, none⟩)) ∧ TF w w' cb L [] ∧ Below w.heap.size w w' := by
  obtain ⟨v, h1, h2⟩ := h.has
  refine (ts_copy h1 hl).mono ?_
  rintro e w' ⟨cb, v', rfl, hT, hb⟩
  exact ⟨cb, rfl, ⟨⟨v', hT, fun k hk => by cases hk⟩, hb, h.mask⟩, hb⟩
end Go.Proofs.YtildhbkcpehobaaGreatDoor
