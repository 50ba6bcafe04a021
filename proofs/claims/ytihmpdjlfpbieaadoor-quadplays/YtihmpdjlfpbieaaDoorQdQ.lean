/- Both trees, a copy and a step beside one another in memory: what is done with one leaves the others as they were. -/
import Derived.Test.YtihmpdjlfpbieaaDoorQdZ
import Derived.Test.YtihmpdjlfpbieaaDoorQdO
namespace Go.Proofs.YtihmpdjlfpbieaaDoor
open Go.RowKit
set_option linter.unusedVariables false
def Dj (X Y : List Nat) : Prop := ∀ k, k ∈ X → k ∉ Y
theorem Dj.symm {X Y : List Nat} (h : Dj X Y) : Dj Y X := fun k hy hx => h k hx hy
/-- what grows into new blocks alone stays apart -/
theorem Dj.turn {tb : Nat} {v v' : Value} {Y : List Nat} {n : Nat} (h : Dj (tb :: ob v) Y) (hv : ∀ k, k ∈ ob v' → k ∈ ob v ∨ n ≤ k) (hy : ∀ k, k ∈ Y → k < n) : Dj (tb :: ob v') Y := by
  intro k hk hY
  rcases List.mem_cons.1 hk with rfl | hk
  · exact h k List.mem_cons_self hY
  · rcases hv k hk with hk | hk
    · exact h k (List.mem_cons_of_mem _ hk) hY
    · have := hy k hY; omega
theorem RT.lt {W : World} {base tb : Nat} {v : Value} {L : List Mk} (h : RT W base tb v L) : ∀ k, k ∈ tb :: ob v → base ≤ k ∧ k < W.heap.size := by
  intro k hk
  rcases List.mem_cons.1 hk with rfl | hk
  · exact ⟨h.lo, lt_of_at h.at_⟩
  · exact h.own.lt k (mem_ob.1 hk)
def stO (s : St) : Obj := .cells #[.int .i64 s.k, .int .i64 s.id, .int .i64 s.x, .int .i64 s.y, .int .i64 s.r0, .int .i64 s.r1, .int .i64 s.r2, .int .i64 s.r3] 35 (0, 0)
/-- the tree at tb and the document's at rb -/
structure LS (W0 W : World) (tb rb : Nat) (Lt Lr : List Mk) : Prop where
  has : ∃ vt vr, TS W W0.heap.size tb vt Lt ∧ RT W W0.heap.size rb vr Lr ∧ Dj (tb :: ob vt) (rb :: ob vr)
  below : Below W0.heap.size W0 W
  masks : Masks W0
/-- a copy at cb and a step at sb besides -/
structure MS (W0 W : World) (tb rb cb sb : Nat) (s : St) (Lt Lr Lc : List Mk) : Prop where
  has : ∃ vt vr vc, TS W W0.heap.size tb vt Lt ∧ RT W W0.heap.size rb vr Lr ∧ TS W W0.heap.size cb vc Lc ∧ Dj (tb :: ob vt) (rb :: ob vr) ∧ Dj (tb :: ob vt) (cb :: ob vc) ∧ Dj (rb :: ob vr) (cb :: ob vc) ∧ Dj (tb :: ob vt) [sb] ∧ Dj (rb :: ob vr) [sb] ∧ Dj (cb :: ob vc) [sb]
  box : W.heap[sb]? = some (stO s)
  below : Below W0.heap.size W0 W
  masks : Masks W0
theorem LS.later {W0 W W' : World} {tb rb : Nat} {Lt Lr : List Mk} (h : LS W0 W tb rb Lt Lr) (hb : Below W.heap.size W W') : LS W0 W' tb rb Lt Lr := by
  obtain ⟨vt, vr, h1, h2, h3⟩ := h.has
  exact ⟨⟨vt, vr, h1.later hb, h2.later hb, h3⟩, h.below.trans (hb.mono h.below.size), h.masks⟩
theorem MS.later {W0 W W' : World} {tb rb cb sb : Nat} {s : St} {Lt Lr Lc : List Mk} (h : MS W0 W tb rb cb sb s Lt Lr Lc) (hb : Below W.heap.size W W') : MS W0 W' tb rb cb sb s Lt Lr Lc := by
  obtain ⟨vt, vr, vc, h1, h2, h3, hd⟩ := h.has
  exact ⟨⟨vt, vr, vc, h1.later hb, h2.later hb, h3.later hb, hd⟩, var_on hb h.box (lt_of_at h.box), h.below.trans (hb.mono h.below.size), h.masks⟩
theorem LS.mask {W0 W : World} {tb rb : Nat} {Lt Lr : List Mk} (h : LS W0 W tb rb Lt Lr) : Masks W := h.masks.below h.below
theorem MS.mask {W0 W : World} {tb rb cb sb : Nat} {s : St} {Lt Lr Lc : List Mk} (h : MS W0 W tb rb cb sb s Lt Lr Lc) : Masks W := h.masks.below h.below
theorem MS.zero {W0 W : World} {tb rb cb sb : Nat} {s : St} {Lt Lr Lc : List Mk} (h : MS W0 W tb rb cb sb s Lt Lr Lc) : 0 < W0.heap.size := World.block_lt_of_cell? W0 ⟨0, 0, none⟩ h.masks.1
theorem MS.out {W0 W : World} {tb rb cb sb : Nat} {s : St} {Lt Lr Lc : List Mk} (h : MS W0 W tb rb cb sb s Lt Lr Lc) : LS W0 W tb rb Lt Lr := by
  obtain ⟨vt, vr, vc, h1, h2, h3, hd, _⟩ := h.has
  exact ⟨⟨vt, vr, h1, h2, hd⟩, h.below, h.masks⟩
theorem one_lt {W : World} {sb : Nat} {o : Obj} (h : W.heap[sb]? = some o) : ∀ k, k ∈ [sb] → k < W.heap.size := fun k hk => by rw [List.mem_singleton.1 hk]; exact lt_of_at h
theorem not_sb {X : List Nat} {sb : Nat} (h : Dj X [sb]) : sb ∉ X := fun hm => h sb hm (List.mem_singleton.2 rfl)
theorem ms_put {W0 w : World} {tb rb cb sb : Nat} {s : St} {Lt Lr Lc : List Mk} (h : MS W0 w tb rb cb sb s Lt Lr Lc) (hl : Lt.length ≤ 999) (id x y : Int) :
    Calls Tryd.prog 10 #[.pointer (some ⟨tb, 0, none⟩), .int .i64 id, pt x y] w fun e w' => e = .returned (.int .i64 (rptE id x y Lt)) ∧ MS W0 w' tb rb cb sb s (rptS id x y Lt) Lr Lc := by
  obtain ⟨vt, vr, vc, h1, h2, h3, d1, d2, d3, d4, d5, d6⟩ := h.has
  refine (ts_put h1 hl h.mask h.below.size id x y).mono ?_
  rintro e w' ⟨rfl, v', k1, k2, k3⟩
  exact ⟨rfl, ⟨v', vr, vc, k1, h2.off k2 d1.symm, h3.off k2 d2.symm, d1.turn k3 (fun k hk => (h2.lt k hk).2), d2.turn k3 (fun k hk => (h3.lt k hk).2), d3, d4.turn k3 (one_lt h.box), d5, d6⟩, at_off h.box k2 (not_sb d4), h.below.trans (k2.below h.below.size (fun x hx => (h1.lt x hx).1)), h.masks⟩
theorem ms_move {W0 w : World} {tb rb cb sb : Nat} {s : St} {Lt Lr Lc : List Mk} (h : MS W0 w tb rb cb sb s Lt Lr Lc) (hl : Lt.length ≤ 999) (id x y : Int) :
    Calls Tryd.prog 12 #[.pointer (some ⟨tb, 0, none⟩), .int .i64 id, pt x y] w fun e w' => e = .returned (.int .i64 (rmvE id x y Lt)) ∧ MS W0 w' tb rb cb sb s (rmvS id x y Lt) Lr Lc := by
  obtain ⟨vt, vr, vc, h1, h2, h3, d1, d2, d3, d4, d5, d6⟩ := h.has
  refine (ts_move h1 hl h.mask h.below.size h.zero id x y).mono ?_
  rintro e w' ⟨rfl, v', k1, k2, k3⟩
  exact ⟨rfl, ⟨v', vr, vc, k1, h2.off k2 d1.symm, h3.off k2 d2.symm, d1.turn k3 (fun k hk => (h2.lt k hk).2), d2.turn k3 (fun k hk => (h3.lt k hk).2), d3, d4.turn k3 (one_lt h.box), d5, d6⟩, at_off h.box k2 (not_sb d4), h.below.trans (k2.below h.below.size (fun x hx => (h1.lt x hx).1)), h.masks⟩
theorem ms_drop {W0 w : World} {tb rb cb sb : Nat} {s : St} {Lt Lr Lc : List Mk} (h : MS W0 w tb rb cb sb s Lt Lr Lc) (hl : Lt.length ≤ 999) (id : Int) :
    Calls Tryd.prog 14 #[.pointer (some ⟨tb, 0, none⟩), .int .i64 id] w fun e w' => e = .returned (.int .i64 (rdrE id Lt)) ∧ MS W0 w' tb rb cb sb s (rdrS id Lt) Lr Lc := by
  obtain ⟨vt, vr, vc, h1, h2, h3, d1, d2, d3, d4, d5, d6⟩ := h.has
  refine (ts_drop h1 hl id).mono ?_
  rintro e w' ⟨rfl, v', k1, k2, k3⟩
  exact ⟨rfl, ⟨v', vr, vc, k1, h2.off k2 d1.symm, h3.off k2 d2.symm, d1.turn k3 (fun k hk => (h2.lt k hk).2), d2.turn k3 (fun k hk => (h3.lt k hk).2), d3, d4.turn k3 (one_lt h.box), d5, d6⟩, at_off h.box k2 (not_sb d4), h.below.trans (k2.below h.below.size (fun x hx => (h1.lt x hx).1)), h.masks⟩
theorem ms_rput {W0 w : World} {tb rb cb sb : Nat} {s : St} {Lt Lr Lc : List Mk} (h : MS W0 w tb rb cb sb s Lt Lr Lc) (hl : Lr.length ≤ 999) (id x y : Int) :
    Calls Tryd.prog 11 #[.pointer (some ⟨rb, 0, none⟩), .int .i64 id, pt x y] w fun e w' => e = .returned (.int .i64 (rptE id x y Lr)) ∧ MS W0 w' tb rb cb sb s Lt (rptS id x y Lr) Lc := by
  obtain ⟨vt, vr, vc, h1, h2, h3, d1, d2, d3, d4, d5, d6⟩ := h.has
  refine (ref_put h2 hl h.below.size id x y).mono ?_
  rintro e w' ⟨rfl, v', k1, k2, k3⟩
  exact ⟨rfl, ⟨vt, v', vc, h1.off k2 d1, k1, h3.off k2 d3.symm, (d1.symm.turn k3 (fun k hk => (h1.lt k hk).2)).symm, d2, d3.turn k3 (fun k hk => (h3.lt k hk).2), d4, d5.turn k3 (one_lt h.box), d6⟩, at_off h.box k2 (not_sb d5), h.below.trans (k2.below h.below.size (fun x hx => (h2.lt x hx).1)), h.masks⟩
theorem ms_rmove {W0 w : World} {tb rb cb sb : Nat} {s : St} {Lt Lr Lc : List Mk} (h : MS W0 w tb rb cb sb s Lt Lr Lc) (id x y : Int) :
    Calls Tryd.prog 13 #[.pointer (some ⟨rb, 0, none⟩), .int .i64 id, pt x y] w fun e w' => e = .returned (.int .i64 (rmvE id x y Lr)) ∧ MS W0 w' tb rb cb sb s Lt (rmvS id x y Lr) Lc := by
  obtain ⟨vt, vr, vc, h1, h2, h3, d1, d2, d3, d4, d5, d6⟩ := h.has
  refine (ref_move h2 id x y).mono ?_
  rintro e w' ⟨rfl, v', k1, k2, k3⟩
  exact ⟨rfl, ⟨vt, v', vc, h1.off k2 d1, k1, h3.off k2 d3.symm, (d1.symm.turn k3 (fun k hk => (h1.lt k hk).2)).symm, d2, d3.turn k3 (fun k hk => (h3.lt k hk).2), d4, d5.turn k3 (one_lt h.box), d6⟩, at_off h.box k2 (not_sb d5), h.below.trans (k2.below h.below.size (fun x hx => (h2.lt x hx).1)), h.masks⟩
theorem ms_rdrop {W0 w : World} {tb rb cb sb : Nat} {s : St} {Lt Lr Lc : List Mk} (h : MS W0 w tb rb cb sb s Lt Lr Lc) (hl : Lr.length ≤ 999) (id : Int) :
    Calls Tryd.prog 15 #[.pointer (some ⟨rb, 0, none⟩), .int .i64 id] w fun e w' => e = .returned (.int .i64 (rdrE id Lr)) ∧ MS W0 w' tb rb cb sb s Lt (rdrS id Lr) Lc := by
  obtain ⟨vt, vr, vc, h1, h2, h3, d1, d2, d3, d4, d5, d6⟩ := h.has
  refine (ref_drop h2 (by omega) h.below.size id).mono ?_
  rintro e w' ⟨rfl, v', k1, k2, k3⟩
  exact ⟨rfl, ⟨vt, v', vc, h1.off k2 d1, k1, h3.off k2 d3.symm, (d1.symm.turn k3 (fun k hk => (h1.lt k hk).2)).symm, d2, d3.turn k3 (fun k hk => (h3.lt k hk).2), d4, d5.turn k3 (one_lt h.box), d6⟩, at_off h.box k2 (not_sb d5), h.below.trans (k2.below h.below.size (fun x hx => (h2.lt x hx).1)), h.masks⟩
theorem TS.base {W : World} {b b' tb : Nat} {v : Value} {L : List Mk} (h : TS W b tb v L) (hb : b' ≤ b) : TS W b' tb v L := by
  obtain ⟨S, h1, h2⟩ := h
  exact ⟨S, ⟨h1.at_, h1.own.mono hb, h1.ne, Nat.le_trans hb h1.lo⟩, h2⟩
/-- t goes on as a copy of itself -/
theorem ms_copy {W0 w : World} {tb rb cb sb : Nat} {s : St} {Lt Lr Lc : List Mk} (h : MS W0 w tb rb cb sb s Lt Lr Lc) (hl : Lt.length ≤ 999) :
    Calls Tryd.prog 9 #[.pointer (some ⟨tb, 0, none⟩)] w fun e w' => ∃ tb', e = .returned (.pointer (some ⟨tb', 0, none⟩)) ∧ MS W0 w' tb' rb cb sb s Lt Lr Lc := by
  obtain ⟨vt, vr, vc, h1, h2, h3, d1, d2, d3, d4, d5, d6⟩ := h.has
  refine (ts_copy h1 hl).mono ?_
  rintro e w' ⟨tb', v', rfl, hT, hb⟩
  have hlt := hT.lt
  refine ⟨tb', rfl, ⟨v', vr, vc, hT.base h.below.size, h2.later hb, h3.later hb, fun k hk hr => ?_, fun k hk hr => ?_, d3, fun k hk hr => ?_, d5, d6⟩, var_on hb h.box (lt_of_at h.box), h.below.trans (hb.mono h.below.size), h.masks⟩
  · have := (hlt k hk).1
    have := (h2.lt k hr).2
    omega
  · have := (hlt k hk).1
    have := (h3.lt k hr).2
    omega
  · have := (hlt k hk).1
    have := one_lt h.box k hr
    omega
/-- the copy takes one more -/
theorem ms_cput {W0 w : World} {tb rb cb sb : Nat} {s : St} {Lt Lr Lc : List Mk} (h : MS W0 w tb rb cb sb s Lt Lr Lc) (hl : Lc.length ≤ 999) (id x y : Int) :
    Calls Tryd.prog 10 #[.pointer (some ⟨cb, 0, none⟩), .int .i64 id, pt x y] w fun e w' => (∃ f : Int, e = .returned (.int .i64 f)) ∧ LS W0 w' tb rb Lt Lr ∧ w'.heap[sb]? = some (stO s) := by
  obtain ⟨vt, vr, vc, h1, h2, h3, d1, d2, d3, d4, d5, d6⟩ := h.has
  refine (ts_put h3 hl h.mask h.below.size id x y).mono ?_
  rintro e w' ⟨rfl, v', k1, k2, k3⟩
  exact ⟨⟨_, rfl⟩, ⟨⟨vt, vr, h1.off k2 d2, h2.off k2 d3, d1⟩, h.below.trans (k2.below h.below.size (fun x hx => (h3.lt x hx).1)), h.masks⟩, at_off h.box k2 (not_sb d6)⟩
/-- a step is laid, t is copied -/
theorem ls_copy {W0 w : World} {tb rb sb : Nat} {s : St} {Lt Lr : List Mk} (h : LS W0 w tb rb Lt Lr) (hl : Lt.length ≤ 999) {w1 : World} (hb1 : Below w.heap.size w w1) (hs1 : w.heap.size ≤ sb) (hs2 : w1.heap[sb]? = some (stO s)) :
    Calls Tryd.prog 9 #[.pointer (some ⟨tb, 0, none⟩)] w1 fun e w' => ∃ cb, e = .returned (.pointer (some ⟨cb, 0, none⟩)) ∧ MS W0 w' tb rb cb sb s Lt Lr Lt := by
  obtain ⟨vt, vr, h1, h2, d1⟩ := h.has
  refine (ts_copy (h1.later hb1) hl).mono ?_
  rintro e w' ⟨cb, v', rfl, hT, hb⟩
  have hlt := hT.lt
  have hbb := below_on hb1 hb
  have hsz := hb1.size
  refine ⟨cb, rfl, ⟨vt, vr, v', h1.later hbb, h2.later hbb, hT.base (Nat.le_trans h.below.size hb1.size), d1, fun k hk hr => ?_, fun k hk hr => ?_, fun k hk hr => ?_, fun k hk hr => ?_, fun k hk hr => ?_⟩, var_on hb hs2 (lt_of_at hs2), h.below.trans (hbb.mono h.below.size), h.masks⟩
  · have := (hlt k hr).1
    have := (h1.lt k hk).2
    omega
  · have := (hlt k hr).1
    have := (h2.lt k hk).2
    omega
  · rw [List.mem_singleton.1 hr] at hk
    have := (h1.lt sb hk).2
    omega
  · rw [List.mem_singleton.1 hr] at hk
    have := (h2.lt sb hk).2
    omega
  · rw [List.mem_singleton.1 hr] at hk
    have := (hlt sb hk).1
    have := lt_of_at hs2
    omega
/-- both new -/
theorem ls_new {w : World} (hM : Masks w) {w1 : World} (h : TS w1 w.heap.size w.heap.size (.slice none 0 0) []) (hb : Below w.heap.size w w1) : LS w (w1.alloc (.cells #[.slice none 0 0] 29)) w.heap.size w1.heap.size [] [] := by
  have hlt := (h.lt w.heap.size List.mem_cons_self).2
  refine ⟨⟨.slice none 0 0, .slice none 0 0, h.later (below1 _ _), ⟨new_at _ _ _ rfl, World.ownsRow_nil _ _ _ _, by rw [ob_nil]; simp, hb.size⟩, fun k hk hr => ?_⟩, hb.alloc hb.size _, hM⟩
  rw [ob_nil, List.mem_singleton] at hk hr
  omega
theorem ls_at {W0 w : World} {tb rb : Nat} {Lt Lr : List Mk} (h : LS W0 w tb rb Lt Lr) (id : Int) :
    Calls Tryd.prog 16 #[.pointer (some ⟨tb, 0, none⟩), .int .i64 id] w fun e w' => e = .returned (.tuple #[pt (ratX id Lt) (ratY id Lt), .bool (ratB id Lt)]) ∧ Below w.heap.size w w' := by
  obtain ⟨vt, vr, h1, h2, d1⟩ := h.has
  exact ts_at h1 h.mask id
theorem ls_rat {W0 w : World} {tb rb : Nat} {Lt Lr : List Mk} (h : LS W0 w tb rb Lt Lr) (id : Int) :
    Calls Tryd.prog 17 #[.pointer (some ⟨rb, 0, none⟩), .int .i64 id] w fun e w' => e = .returned (.tuple #[pt (ratX id Lr) (ratY id Lr), .bool (ratB id Lr)]) ∧ Below w.heap.size w w' := by
  obtain ⟨vt, vr, h1, h2, d1⟩ := h.has
  exact ref_At h2 id
theorem ls_in {W0 w : World} {tb rb : Nat} {Lt Lr : List Mk} (h : LS W0 w tb rb Lt Lr) (hl : Lt.length ≤ 999) (r0 r1 r2 r3 : Int) {M : List Int} (hM : Hid (rinL Lt ⟨r0, r1, r2, r3⟩ = M)) :
    Calls Tryd.prog 19 #[.pointer (some ⟨tb, 0, none⟩), rc r0 r1 r2 r3] w fun e w' => ∃ p cap, e = .returned (.slice p M.length cap) ∧ RowG cI 1 w' p M ∧ Below w.heap.size w w' := by
  obtain ⟨vt, vr, h1, h2, d1⟩ := h.has
  rw [← hM.out]
  refine (ts_in h1 hl h.mask r0 r1 r2 r3).mono ?_
  rintro e w' ⟨p, cap, rfl, ho, hb⟩
  exact ⟨p, cap, rfl, row_own cI_z ho rfl, hb⟩
theorem ls_rin {W0 w : World} {tb rb : Nat} {Lt Lr : List Mk} (h : LS W0 w tb rb Lt Lr) (hl : Lr.length ≤ 999) (r0 r1 r2 r3 : Int) {M : List Int} (hM : Hid (rinL Lr ⟨r0, r1, r2, r3⟩ = M)) :
    Calls Tryd.prog 20 #[.pointer (some ⟨rb, 0, none⟩), rc r0 r1 r2 r3] w fun e w' => ∃ p cap, e = .returned (.slice p M.length cap) ∧ RowG cI 1 w' p M ∧ Below w.heap.size w w' := by
  obtain ⟨vt, vr, h1, h2, d1⟩ := h.has
  rw [← hM.out]
  exact ref_In h2 (by omega) r0 r1 r2 r3
theorem ls_len {W0 w : World} {tb rb : Nat} {Lt Lr : List Mk} (h : LS W0 w tb rb Lt Lr) {n : Nat} (hn : Hid (Lt.length = n)) :
    Calls Tryd.prog 21 #[.pointer (some ⟨tb, 0, none⟩)] w fun e w' => e = .returned (.int .i64 (n : Nat)) ∧ w' = w := by
  obtain ⟨vt, vr, h1, h2, d1⟩ := h.has
  rw [← hn.out]
  exact ts_len h1
theorem ls_depth {W0 w : World} {tb rb : Nat} {Lt Lr : List Mk} (h : LS W0 w tb rb Lt Lr) (hl : Lt.length ≤ 999) {d : Nat} (hd : Hid (dep Lt = d)) :
    Calls Tryd.prog 22 #[.pointer (some ⟨tb, 0, none⟩)] w fun e w' => e = .returned (.int .i64 (d : Nat)) ∧ Below w.heap.size w w' := by
  obtain ⟨vt, vr, h1, h2, d1⟩ := h.has
  rw [← hd.out]
  exact ts_depth h1 hl h.mask
theorem ls_rdepth {W0 w : World} {tb rb : Nat} {Lt Lr : List Mk} (h : LS W0 w tb rb Lt Lr) (hl : Lr.length ≤ 999) {d : Nat} (hd : Hid (dep Lr = d)) :
    Calls Tryd.prog 23 #[.pointer (some ⟨rb, 0, none⟩)] w fun e w' => e = .returned (.int .i64 (d : Nat)) ∧ Below w.heap.size w w' := by
  obtain ⟨vt, vr, h1, h2, d1⟩ := h.has
  rw [← hd.out]
  exact ref_depth h2 (by omega)
theorem LS.row {W0 w : World} {tb rb : Nat} {Lt Lr : List Mk} (h : LS W0 w tb rb Lt Lr) : ∃ p cap, w.heap[rb]? = some (.cells #[.slice p Lr.length cap] 29 (0, 0)) := by
  obtain ⟨vt, vr, h1, h2, d1⟩ := h.has
  obtain ⟨p, cap, e, _⟩ := h2.row
  exact ⟨p, cap, by rw [← e]; exact h2.at_⟩
theorem rpt_len (id x y : Int) (L : List Mk) : (rptS id x y L).length ≤ L.length + 1 := by
  unfold rptS
  split
  · have := (insS_perm L (ahead id L) ⟨id, x, y⟩).length_eq
    rw [this]; simp
  · omega
theorem rmv_len (id x y : Int) (L : List Mk) : (rmvS id x y L).length ≤ L.length + 1 := by
  unfold rmvS
  split
  · rw [setM_length]; omega
  · omega
theorem rdr_len (id : Int) (L : List Mk) : (rdrS id L).length ≤ L.length + 1 := by
  unfold rdrS
  split
  · omega
  · have := (delS_sub L (rfI id L).toNat).length_le
    omega
theorem st_at {w : World} {p : Option Addr} {L : List St} (h : RowG St.cs 8 w p L) {k : Nat} {a : St} (hk : L[k]? = some a) : ∃ b off, p = some ⟨b, off, none⟩ ∧ w.cell? ⟨b, off + k * 8, none⟩ = some (.int .i64 a.k) ∧ w.cell? ⟨b, off + k * 8 + 1, none⟩ = some (.int .i64 a.id) ∧ w.cell? ⟨b, off + k * 8 + 2, none⟩ = some (.int .i64 a.x) ∧ w.cell? ⟨b, off + k * 8 + 3, none⟩ = some (.int .i64 a.y) ∧ w.cell? ⟨b, off + k * 8 + 4, none⟩ = some (.int .i64 a.r0) ∧ w.cell? ⟨b, off + k * 8 + 5, none⟩ = some (.int .i64 a.r1) ∧ w.cell? ⟨b, off + k * 8 + 6, none⟩ = some (.int .i64 a.r2) ∧ w.cell? ⟨b, off + k * 8 + 7, none⟩ = some (.int .i64 a.r3) := by
  obtain ⟨b, off, hp, hc⟩ := h.at hk
  exact ⟨b, off, hp, hc 0 _ rfl, hc 1 _ rfl, hc 2 _ rfl, hc 3 _ rfl, hc 4 _ rfl, hc 5 _ rfl, hc 6 _ rfl, hc 7 _ rfl⟩
end Go.Proofs.YtihmpdjlfpbieaaDoor
