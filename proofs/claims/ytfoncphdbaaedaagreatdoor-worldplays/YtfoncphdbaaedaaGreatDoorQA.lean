/- Plain facts on rows of small structs in memory, of worlds behind calls; spots, squares, marks. No conditions beyond those typed. Contracts of the tree's look-ups over this translation: find, first and what they call. Each returns what the plain functions say, and changes nothing that was there. Contracts of find and first over this translation: each returns what the plain functions say, and changes nothing that was there. Contracts of the squares' functions over this translation: side, end, place, rect. Each returns what the plain functions say, and changes nothing that was there. -/
import Derived.Test.YtfoncphdbaaedaaGreatDoorGeom
import Derived.Test.YtfoncphdbaaedaaGreatDoorMorton2
import Derived.Deep.LoopGhost
import Derived.Deep.RegionHeld3
namespace Go.Proofs.YtfoncphdbaaedaaGreatDoor
section
open Go.RowKit
set_option linter.unusedVariables false
theorem hid {p : Prop} (h : p) : Hid p := h
theorem new_at (W : World) (o : Obj) (g : Nat) (hg : g = W.heap.size) : (W.alloc o).heap[g]? = some o := by rw [heap_alloc, if_pos hg]
theorem lt_of_at {W : World} {g : Nat} {p : Obj} (h : W.heap[g]? = some p) : g < W.heap.size := (Array.getElem?_eq_some_iff.1 h).1
theorem old_at {W : World} {g : Nat} {p : Obj} (h : W.heap[g]? = some p) (o : Obj) : (W.alloc o).heap[g]? = some p := by
  rw [heap_alloc, if_neg (by have := lt_of_at h; omega)]; exact h
theorem set_at {W : World} {g i : Nat} {cs : Array Value} {t : TypeId} {fr : Nat × Nat} (h : W.heap[g]? = some (.cells cs t fr)) (v : Value) {cs' : Array Value} (hc : cs.setIfInBounds i v = cs') : (W.setCell ⟨g, i, none⟩ v).heap[g]? = some (.cells cs' t fr) := by
  simp [World.setCell, Array.getElem?_modify, h, ← hc]
theorem set_off {W : World} {g : Nat} {p : Obj} (h : W.heap[g]? = some p) {b i : Nat} (hb : g ≠ b) (v : Value) : (W.setCell ⟨b, i, none⟩ v).heap[g]? = some p := by
  rw [Below.heap_setCell _ _ _ _ hb]; exact h
theorem cells_at {W : World} {g : Nat} {cs : Array Value} {t : TypeId} (h : W.heap[g]? = some (.cells cs t (0, 0))) : (∀ i, W.cell? ⟨g, i, none⟩ = cs[i]?) ∧ (∀ i, W.frozen? ⟨g, i, none⟩ = false) :=
  ⟨fun i => Go.Joins.cell_of_block h i, fun i => Go.Joins.unfrozen_of_block h i⟩
theorem grown_cells {W : World} {g : Nat} {cs : Array Value} {t : TypeId} (h : W.heap[g]? = some (.cells cs t (0, 0))) : ∀ i d os, (Sort.grow (redrawn W d) os).cell? ⟨g, i, none⟩ = cs[i]? := fun i d os => by
  have hb := below_regrown W d os
  rw [hb.cell (p := ⟨g, i, none⟩) (lt_of_at h)]
  exact Go.Joins.cell_of_block h i
theorem owns_slice {W : World} {base : Nat} {e : TypeId} {size : Nat} {v : Value} {n : Nat} {xs : List Value} (h : W.ownsRow base e size v n xs) : ∃ p cap, v = .slice p n cap := by
  rcases h.2 with ⟨rfl, rfl⟩ | ⟨g, cap, cur, rfl, _⟩
  · exact ⟨_, _, rfl⟩
  · exact ⟨_, _, rfl⟩
theorem owns_on {base : Nat} {e : TypeId} {size : Nat} {v : Value} {n : Nat} {xs : List Value} {W W' : World} (h : W.ownsRow base e size v n xs) (hb : Below W.heap.size W W') : W'.ownsRow base e size v n xs :=
  h.kept (row := none) ⟨hb.os, hb.tape, hb.output, hb.size, fun k hk _ => hb.block k hk⟩ (by cases hv : v.ownBlock <;> simp)
theorem calls_val {f : Nat} {args : Array Value} {w : World} {v v' : Value} (h : Calls Tryz.prog f args w fun e w' => e = .returned v ∧ Below w.heap.size w w') (hv : v = v') : Calls Tryz.prog f args w fun e w' => e = .returned v' ∧ Below w.heap.size w w' := by
  rw [← hv]; exact h
/-- rows of whatever structs: the cells one behind the other -/
def flatG {α : Type} (cs : α → List Value) (l : List α) : List Value := l.flatMap cs
theorem flatG_length {α : Type} {cs : α → List Value} {z : Nat} (hz : ∀ a, (cs a).length = z) (l : List α) : (flatG cs l).length = l.length * z := by
  induction l with
  | nil => simp [flatG]
  | cons a l ih =>
    have : flatG cs (a :: l) = cs a ++ flatG cs l := rfl
    rw [this, List.length_append, hz, ih, List.length_cons, Nat.succ_mul]; omega
theorem flatG_append {α : Type} (cs : α → List Value) (l m : List α) : flatG cs (l ++ m) = flatG cs l ++ flatG cs m := by simp [flatG]
theorem flatG_one {α : Type} (cs : α → List Value) (a : α) : flatG cs [a] = cs a := by simp [flatG]
theorem flatG_get {α : Type} {cs : α → List Value} {z : Nat} (hz : ∀ a, (cs a).length = z) (l : List α) (k : Nat) (a : α) (h : l[k]? = some a) (j : Nat) (hj : j < z) : (flatG cs l)[k * z + j]? = (cs a)[j]? := by
  induction l generalizing k with
  | nil => simp at h
  | cons b l ih =>
    have e : flatG cs (b :: l) = cs b ++ flatG cs l := rfl
    cases k with
    | zero =>
      simp at h
      subst h
      rw [e, Nat.zero_mul, Nat.zero_add, List.getElem?_append_left (by rw [hz]; exact hj)]
    | succ k =>
      have := ih k (by simpa using h)
      have e2 : (k + 1) * z = k * z + z := Nat.succ_mul k z
      rw [e, List.getElem?_append_right (by rw [hz]; omega), hz, show (k + 1) * z + j - z = k * z + j by omega]
      exact this
theorem flatG_take {α : Type} {cs : α → List Value} {z : Nat} (hz : ∀ a, (cs a).length = z) (l : List α) (k : Nat) : (flatG cs l).take (k * z) = flatG cs (l.take k) := by
  induction l generalizing k with
  | nil => simp [flatG]
  | cons b l ih =>
    cases k with
    | zero => simp [flatG]
    | succ k =>
      have e : flatG cs (b :: l) = cs b ++ flatG cs l := rfl
      have e2 : (k + 1) * z = z + k * z := by rw [Nat.succ_mul]; omega
      rw [e, e2, List.take_append, hz, List.take_of_length_le (by rw [hz]; omega), show z + k * z - z = k * z by omega, ih]
      rfl
theorem flatG_drop {α : Type} {cs : α → List Value} {z : Nat} (hz : ∀ a, (cs a).length = z) (l : List α) (k : Nat) : (flatG cs l).drop (k * z) = flatG cs (l.drop k) := by
  induction l generalizing k with
  | nil => simp [flatG]
  | cons b l ih =>
    cases k with
    | zero => simp
    | succ k =>
      have e : flatG cs (b :: l) = cs b ++ flatG cs l := rfl
      have e2 : (k + 1) * z = z + k * z := by rw [Nat.succ_mul]; omega
      rw [e, e2, List.drop_append, hz, List.drop_of_length_le (by rw [hz]; omega), show z + k * z - z = k * z by omega, ih, List.nil_append]
      rfl
/-- the row behind p, cell by cell; the empty row wants none -/
def RowG {α : Type} (cs : α → List Value) (z : Nat) (W : World) (p : Option Addr) (L : List α) : Prop := L = [] ∨ ∃ b off, p = some ⟨b, off, none⟩ ∧ ∀ k a, L[k]? = some a → ∀ j u, (cs a)[j]? = some u → W.cell? ⟨b, off + k * z + j, none⟩ = some u
theorem RowG.later {α : Type} {cs : α → List Value} {z : Nat} {w wr : World} {p : Option Addr} {L : List α} (h : RowG cs z w p L) (hb : Below w.heap.size w wr) : RowG cs z wr p L := by
  rcases h with h | ⟨b, off, h, hc⟩
  · exact .inl h
  · exact .inr ⟨b, off, h, fun k t hk j u hu => cell_below hb (hc k t hk j u hu)⟩
theorem RowG.at {α : Type} {cs : α → List Value} {z : Nat} {w : World} {p : Option Addr} {L : List α} (h : RowG cs z w p L) {k : Nat} {a : α} (hk : L[k]? = some a) : ∃ b off, p = some ⟨b, off, none⟩ ∧ ∀ j u, (cs a)[j]? = some u → w.cell? ⟨b, off + k * z + j, none⟩ = some u := by
  rcases h with h | ⟨b, off, h, hc⟩
  · subst h; simp at hk
  · exact ⟨b, off, h, hc k a hk⟩
theorem row_own {α : Type} {cs : α → List Value} {z : Nat} (hz : ∀ a, (cs a).length = z) {W : World} {base n : Nat} {e : TypeId} {p : Option Addr} {cap : Nat} {L : List α} (h : W.ownsRow base e z (.slice p n cap) n (flatG cs L)) (hn : n = L.length) : RowG cs z W p L := by
  subst hn
  by_cases h0 : L = []
  · exact .inl h0
  · right
    have hpos : 0 < L.length := List.length_pos_iff.2 h0
    rcases h.2 with ⟨h', h0⟩ | ⟨g, cap', cur, h', _⟩
    · omega
    · simp only [Value.slice.injEq] at h'
      obtain ⟨rfl, _, rfl⟩ := h'
      refine ⟨g, 0, rfl, fun k t hk j u hu => ?_⟩
      have hk' : k < L.length := (List.getElem?_eq_some_iff.1 hk).1
      have hj : j < z := by rw [← hz t]; exact (List.getElem?_eq_some_iff.1 hu).1
      have hlt : k * z + j < L.length * z := by
        have : (k + 1) * z ≤ L.length * z := Nat.mul_le_mul_right z hk'
        rw [Nat.succ_mul] at this
        omega
      rw [Nat.zero_add, h.cellAt (k * z + j) hlt, flatG_get hz L k t hk j hj]
      exact hu
theorem get_some {α : Type} (L : List α) (k : Nat) (hk : k < L.length) : ∃ t, L[k]? = some t := ⟨L[k], by simp [hk]⟩
/-- a thing's number and its place woven into one -/
structure Sp where
  id : Int
  c : Nat
/-- a square: how deep, its least code -/
structure Sq where
  d : Nat
  b : Nat
/-- a number and where -/
structure Mk where
  id : Int
  x : Int
  y : Int
def Sp.cs (s : Sp) : List Value := [.int .i64 s.id, .int .u32 (s.c : Nat)]
def Sq.cs (s : Sq) : List Value := [.int .i64 (s.d : Nat), .int .u32 (s.b : Nat)]
def Mk.cs (s : Mk) : List Value := [.int .i64 s.id, .int .i64 s.x, .int .i64 s.y]
theorem Sp.z (s : Sp) : s.cs.length = 2 := rfl
theorem Sq.z (s : Sq) : s.cs.length = 2 := rfl
theorem Mk.z (s : Mk) : s.cs.length = 3 := rfl
abbrev Sp.v (s : Sp) : Value := .agg #[.int .i64 s.id, .int .u32 (s.c : Nat)]
abbrev Sq.v (s : Sq) : Value := .agg #[.int .i64 (s.d : Nat), .int .u32 (s.b : Nat)]
abbrev Mk.v (s : Mk) : Value := .agg #[.int .i64 s.id, .int .i64 s.x, .int .i64 s.y]
abbrev cells2 (W : World) (b o : Nat) (u0 u1 : Value) : Prop := W.cell? ⟨b, o, none⟩ = some u0 ∧ W.cell? ⟨b, o + 1, none⟩ = some u1
abbrev cells3 (W : World) (b o : Nat) (u0 u1 u2 : Value) : Prop := W.cell? ⟨b, o, none⟩ = some u0 ∧ W.cell? ⟨b, o + 1, none⟩ = some u1 ∧ W.cell? ⟨b, o + 2, none⟩ = some u2
theorem spot_at {w : World} {p : Option Addr} {L : List Sp} (h : RowG Sp.cs 2 w p L) {k : Nat} {a : Sp} (hk : L[k]? = some a) : ∃ b off, p = some ⟨b, off, none⟩ ∧ cells2 w b (off + k * 2) (.int .i64 a.id) (.int .u32 (a.c : Nat)) := by
  obtain ⟨b, off, hp, hc⟩ := h.at hk
  exact ⟨b, off, hp, hc 0 _ rfl, hc 1 _ rfl⟩
theorem square_at {w : World} {p : Option Addr} {L : List Sq} (h : RowG Sq.cs 2 w p L) {k : Nat} {a : Sq} (hk : L[k]? = some a) : ∃ b off, p = some ⟨b, off, none⟩ ∧ cells2 w b (off + k * 2) (.int .i64 (a.d : Nat)) (.int .u32 (a.b : Nat)) := by
  obtain ⟨b, off, hp, hc⟩ := h.at hk
  exact ⟨b, off, hp, hc 0 _ rfl, hc 1 _ rfl⟩
theorem mark_at {w : World} {p : Option Addr} {L : List Mk} (h : RowG Mk.cs 3 w p L) {k : Nat} {a : Mk} (hk : L[k]? = some a) : ∃ b off, p = some ⟨b, off, none⟩ ∧ cells3 w b (off + k * 3) (.int .i64 a.id) (.int .i64 a.x) (.int .i64 a.y) := by
  obtain ⟨b, off, hp, hc⟩ := h.at hk
  exact ⟨b, off, hp, hc 0 _ rfl, hc 1 _ rfl, hc 2 _ rfl⟩
/-- but for the blocks of X nothing that was there has turned -/
structure Off (X : List Nat) (w w' : World) : Prop where
  os : w'.os = w.os
  tape : w'.tape = w.tape
  output : w'.output = w.output
  size : w.heap.size ≤ w'.heap.size
  block : ∀ k, k < w.heap.size → k ∉ X → w'.heap[k]? = w.heap[k]?
theorem Off.of_below {w w' : World} (h : Below w.heap.size w w') (X : List Nat) : Off X w w' := ⟨h.os, h.tape, h.output, h.size, fun k hk _ => h.block k hk⟩
theorem Off.refl (X : List Nat) (w : World) : Off X w w := ⟨rfl, rfl, rfl, Nat.le_refl _, fun _ _ _ => rfl⟩
theorem Off.trans {X Y : List Nat} {a b c : World} (h : Off X a b) (k : Off Y b c) (hy : ∀ y, y ∈ Y → y ∈ X ∨ a.heap.size ≤ y) : Off X a c :=
  ⟨k.os.trans h.os, k.tape.trans h.tape, k.output.trans h.output, Nat.le_trans h.size k.size, fun i hi hx => (k.block i (by have := h.size; omega) (fun hY => by rcases hy i hY with h' | h'; exact hx h'; omega)).trans (h.block i hi hx)⟩
theorem Off.below {X : List Nat} {w w' : World} (h : Off X w w') {B : Nat} (hB : B ≤ w.heap.size) (hx : ∀ x, x ∈ X → B ≤ x) : Below B w w' :=
  ⟨h.os, h.tape, h.output, h.size, fun k hk => h.block k (by omega) (fun hX => by have := hx k hX; omega)⟩
theorem Off.grown {w w' : World} {row : Option Nat} (h : w.grownBy w' row) {X : List Nat} (hx : ∀ k, row = some k → k ∈ X) : Off X w w' :=
  ⟨h.os, h.tape, h.output, h.size, fun k hk hX => h.block k hk (fun e => hX (hx k e.symm))⟩
/-- the block that a slice's row lies in -/
def ob (v : Value) : List Nat := match v.ownBlock with | some k => [k] | none => []
theorem mem_ob {v : Value} {k : Nat} : k ∈ ob v ↔ v.ownBlock = some k := by
  unfold ob; cases h : v.ownBlock <;> simp [eq_comm]
theorem owns_off {base : Nat} {e : TypeId} {size : Nat} {v : Value} {n : Nat} {xs : List Value} {W W' : World} {X : List Nat} (h : W.ownsRow base e size v n xs) (ho : Off X W W') (hx : ∀ k, k ∈ ob v → k ∉ X) : W'.ownsRow base e size v n xs := by
  refine ⟨h.1, ?_⟩
  rcases h.2 with hn | ⟨g, cap, cur, rfl, hb, hgg, rest⟩
  · exact .inl hn
  · refine .inr ⟨g, cap, cur, rfl, hb, ?_, rest⟩
    rw [ho.block g (lt_of_at hgg) (hx g (mem_ob.2 rfl))]
    exact hgg
theorem at_off {W W' : World} {X : List Nat} {g : Nat} {o : Obj} (h : W.heap[g]? = some o) (ho : Off X W W') (hx : g ∉ X) : W'.heap[g]? = some o := by
  rw [ho.block g (lt_of_at h) hx]; exact h
end
section
open Go.RowKit
set_option linter.unusedVariables false
/-- the tree behind a pointer: its block holds the slice v, whose row is S -/
structure Tr (W : World) (base tb : Nat) (v : Value) (S : List Sp) : Prop where
  at_ : W.heap[tb]? = some (.cells #[v] 85 (0, 0))
  own : W.ownsRow base 90 2 v S.length (flatG Sp.cs S)
  ne : tb ∉ ob v
  lo : base ≤ tb
def findI (id : Int) (S : List Sp) : Int := match S.findIdx? (fun s => s.id == id) with | some i => (i : Int) | none => -1
def firstN (c : Nat) (S : List Sp) : Nat := S.countP (fun s => decide (s.c < c))
def Rising (S : List Sp) : Prop := ∀ (i j : Nat) (a b : Sp), i ≤ j → S[i]? = some a → S[j]? = some b → a.c ≤ b.c
theorem firstN_le (c : Nat) (S : List Sp) : firstN c S ≤ S.length := List.countP_le_length
theorem firstN_eq {c : Nat} {S : List Sp} {i : Nat} (hi : i ≤ S.length) (h1 : ∀ j a, j < i → S[j]? = some a → a.c < c) (h2 : ∀ j a, i ≤ j → S[j]? = some a → c ≤ a.c) : firstN c S = i := by
  unfold firstN
  have e : S = S.take i ++ S.drop i := (List.take_append_drop i S).symm
  have e1 : (S.take i).countP (fun s => decide (s.c < c)) = (S.take i).length := by
    rw [List.countP_eq_length]
    intro a ha
    obtain ⟨j, hj, rfl⟩ := List.getElem_of_mem ha
    have hj' : j < i := by rw [List.length_take] at hj; omega
    have := h1 j (S.take i)[j] hj' (by rw [← List.getElem?_eq_getElem hj, List.getElem?_take, if_pos hj'])
    simpa using this
  have e2 : (S.drop i).countP (fun s => decide (s.c < c)) = 0 := by
    rw [List.countP_eq_zero]
    intro a ha
    obtain ⟨j, hj, rfl⟩ := List.getElem_of_mem ha
    have := h2 (i + j) (S.drop i)[j] (by omega) (by rw [← List.getElem?_drop]; exact List.getElem?_eq_getElem hj)
    simp only [decide_eq_true_eq]; omega
  calc S.countP (fun s => decide (s.c < c)) = (S.take i ++ S.drop i).countP (fun s => decide (s.c < c)) := by rw [← e]
    _ = i := by rw [List.countP_append, e1, e2, List.length_take]; omega
theorem findI_hit {id : Int} {S : List Sp} {k : Nat} {s : Sp} (hk : S[k]? = some s) (hs : s.id = id) (hl : ∀ j a, j < k → S[j]? = some a → ¬ a.id = id) : findI id S = k := by
  have : S.findIdx? (fun s => s.id == id) = some k := by
    rw [List.findIdx?_eq_some_iff_getElem]
    obtain ⟨hlt, he⟩ := List.getElem?_eq_some_iff.1 hk
    refine ⟨hlt, by rw [he]; simp [hs], fun j hj => ?_⟩
    have := hl j (S[j]'(by omega)) hj (by simp)
    simpa using this
  unfold findI
  rw [this]
theorem findI_miss {id : Int} {S : List Sp} (hl : ∀ j a, j < S.length → S[j]? = some a → ¬ a.id = id) : findI id S = -1 := by
  have : S.findIdx? (fun s => s.id == id) = none := by
    rw [List.findIdx?_eq_none_iff]
    intro a ha
    obtain ⟨j, hj, rfl⟩ := List.getElem_of_mem ha
    have := hl j S[j] hj (by simp)
    simpa using this
  unfold findI
  rw [this]
theorem find_cl (id : Int) (B : Nat) (w : World) (s : Sp) (hc : w.cell? ⟨B, 0, none⟩ = some (.int .i64 id)) :
    Calls Tryz.prog 118 #[s.v, .pointer (some ⟨B, 0, none⟩)] w fun e w' => e = .returned (.bool (s.id == id)) ∧ Below w.heap.size w w' := by
  have hlt := World.block_lt_of_cell? w _ hc
  have hne : B ≠ w.heap.size := by simp at hlt; omega
  go_enter Tryz.func118, Tryz.ntmps118
  go_wp2
  go_ret
  exact ⟨rfl, below1 _ _⟩
set_option maxHeartbeats 1000000 in
theorem index_func (id : Int) (B : Nat) (w : World) (p : Option Addr) (cap : Nat) (S : List Sp) (hr : RowG Sp.cs 2 w p S) (hm : S.length ≤ maxLen) (hB : w.cell? ⟨B, 0, none⟩ = some (.int .i64 id)) :
    Calls Tryz.prog 117 #[.slice p S.length cap, .func (.func 118) #[] #[.pointer (some ⟨B, 0, none⟩)]] w fun e w' => e = .returned (.int .i64 (findI id S)) ∧ Below w.heap.size w w' := by
  obtain ⟨n, hn⟩ : ∃ n, Hid (S.length = n) := ⟨_, rfl⟩
  rw [hn.out] at hm ⊢
  have hm' : n ≤ 9223372036854775807 := by unfold maxLen at hm; omega
  obtain ⟨R, hR⟩ : ∃ R, Hid (findI id S = R) := ⟨_, rfl⟩
  rw [hR.out]
  have HB := hid hB
  clear hB
  have HC : Hid (∀ (W : World) (s : Sp), Below w.heap.size w W → Calls Tryz.prog 118 #[s.v, .pointer (some ⟨B, 0, none⟩)] W fun e w' => e = .returned (.bool (s.id == id)) ∧ Below W.heap.size W w') := fun W s hb => find_cl id B W s (cell_below hb HB.out)
  go_enter Tryz.func117, Tryz.ntmps117
  go_wp2_with fail
  go_loopw [8] (fun i wr => ∃ k : Nat, k ≤ n ∧ i = .int .i64 k ∧ (∀ j a, j < k → S[j]? = some a → ¬ a.id = id) ∧ Below w.heap.size w wr) (fun i _ => n - (intOf i).toNat)
  case atStart => exact ⟨0, by omega, rfl, fun j t hj => by omega, Below.refl _ _⟩
  case round =>
    obtain ⟨k, hk, rfl, hok, hb⟩ := hrel
    have HO := hid hok
    clear hok
    by_cases hlt : k < n
    · have hlt' : (k : Int) < (n : Int) := by omega
      obtain ⟨t, ht⟩ := get_some S k (by rw [hn.out]; exact hlt)
      obtain ⟨b, off, rfl, hc⟩ := spot_at (hr.later hb) ht
      have HT := hid ht
      clear ht
      go_wp2_with fail
      refine (HC.out _ t hb).mono ?_
      rintro x w2 ⟨rfl, hb2⟩
      have hB2 := below_on hb hb2
      clear hb2 hb hc
      by_cases q : t.id = id
      · have q' : (t.id == id) = true := by simpa using q
        rw [q']
        go_wp2_with fail
        go_ret; exact ⟨congrArg (fun x => Ending.returned (.int .i64 x)) ((findI_hit HT.out q HO.out).symm.trans hR.out), hB2⟩
      · have q' : (t.id == id) = false := by simpa using q
        rw [q']
        have Q := hid q
        clear q q'
        go_wp2_with fail
        go_roundw
        case rel =>
          refine ⟨k + 1, by omega, by go_num, fun j u hj hu => ?_, hB2⟩
          by_cases e : j = k
          · subst e
            have := Option.some.inj (HT.out.symm.trans hu)
            subst this
            exact Q.out
          · exact HO.out j u (by omega) hu
        case measure => simp [intOf]; omega
    · obtain rfl : k = n := by omega
      have hlt' : ¬ (k : Int) < (k : Int) := by omega
      go_wp2_with fail
      go_ret
      exact ⟨congrArg (fun x => Ending.returned (.int .i64 x)) ((findI_miss (fun j t hj => HO.out j t (by rw [← hn.out]; exact hj))).symm.trans hR.out), hb⟩
end
section
open Go.RowKit
set_option linter.unusedVariables false
theorem Tr.row {W : World} {base tb : Nat} {v : Value} {S : List Sp} (h : Tr W base tb v S) : ∃ p cap, v = .slice p S.length cap ∧ RowG Sp.cs 2 W p S ∧ S.length ≤ cap ∧ cap ≤ maxLen := by
  obtain ⟨p, cap, rfl⟩ := owns_slice h.own
  refine ⟨p, cap, rfl, row_own Sp.z h.own rfl, ?_⟩
  rcases h.own.2 with ⟨h1, h2⟩ | ⟨g, cap', cur, h1, _, _, h2, h3, _⟩
  · simp only [Value.slice.injEq] at h1
    obtain ⟨_, _, rfl⟩ := h1
    exact ⟨by omega, by unfold maxLen; omega⟩
  · simp only [Value.slice.injEq] at h1
    obtain ⟨_, _, rfl⟩ := h1
    exact ⟨h2, h3⟩
theorem Tr.later {W W' : World} {base tb : Nat} {v : Value} {S : List Sp} (h : Tr W base tb v S) (hb : Below W.heap.size W W') : Tr W' base tb v S :=
  ⟨var_on hb h.at_ (lt_of_at h.at_), owns_on h.own hb, h.ne, h.lo⟩
theorem tree_find {w : World} {base tb : Nat} {v : Value} {S : List Sp} (h : Tr w base tb v S) (id : Int) :
    Calls Tryz.prog 92 #[.pointer (some ⟨tb, 0, none⟩), .int .i64 id] w fun e w' => e = .returned (.int .i64 (findI id S)) ∧ Below w.heap.size w w' := by
  obtain ⟨p, cap, rfl, hr, hc, hm⟩ := h.row
  have hcell := (cells_at h.at_).1
  have hlt := lt_of_at h.at_
  have hne : tb ≠ w.heap.size := by omega
  have hcon := index_func id w.heap.size (w.alloc (.cells #[.int .i64 id] 3)) p cap S (hr.later (below1 _ _)) (by omega) (by simp)
  clear hr h hc
  obtain ⟨n, hn⟩ : ∃ n, Hid (S.length = n) := ⟨_, rfl⟩
  rw [hn.out] at hcon hcell
  obtain ⟨R, hR⟩ : ∃ R, Hid (findI id S = R) := ⟨_, rfl⟩
  rw [hR.out] at hcon ⊢
  go_enter Tryz.func92, Tryz.ntmps92
  go_wp2_with fail
  refine hcon.mono ?_
  rintro x w2 ⟨rfl, hb2⟩
  go_wp2
  go_ret
  exact ⟨rfl, below_on (below1 _ _) hb2⟩
theorem first_cl {w : World} {tb A B : Nat} {p : Option Addr} {n cap : Nat} {S : List Sp} {c i : Nat} {s : Sp} (hT : ∀ i, w.cell? ⟨tb, i, none⟩ = #[.slice p n cap][i]?) (hr : RowG Sp.cs 2 w p S) (hn : Hid (n = S.length)) (hm : n ≤ 9223372036854775807)
    (hA : w.cell? ⟨A, 0, none⟩ = some (.pointer (some ⟨tb, 0, none⟩))) (hB : w.cell? ⟨B, 0, none⟩ = some (.int .u32 (c : Nat))) (hs : S[i]? = some s) :
    Calls Tryz.prog 109 #[.int .i64 (i : Nat), .pointer (some ⟨A, 0, none⟩), .pointer (some ⟨B, 0, none⟩)] w fun e w' => e = .returned (.bool (!decide (s.c < c))) ∧ Below w.heap.size w w' := by
  have hi : i < n := by rw [hn.out]; exact (List.getElem?_eq_some_iff.1 hs).1
  have hi' : (i : Int) < (n : Int) := by omega
  obtain ⟨b, off, rfl, hc⟩ := spot_at hr hs
  have h1 : ∀ d os, (Sort.grow (redrawn w d) os).cell? ⟨tb, 0, none⟩ = some (.slice (some ⟨b, off, none⟩) n cap) := cell_regrown (hT 0)
  have h2 := cell_regrown hA
  have h3 := cell_regrown hB
  have h4 := cell_regrown hc.2
  clear hT hr hA hB hc hs
  go_enter Tryz.func109, Tryz.ntmps109
  go_wp2_with fail
  refine wp_region_quiet_below (by kernel_rfl) (by kernel_rfl) ?_
  repeat (first | go_big_quiet_skip | (go_big_quiet_want; go_big_quiet_op; first | go_big_quiet_on | go_big_quiet_call (exact Calls.regrown_of ((less_at _ _ _).mono fun _ _ ⟨he, hw⟩ => ⟨he, by rw [hw]; exact Below.refl _ _⟩))))
  refine wpQuiet_nil ?_
  intro _ hw'
  obtain ⟨⟨dq, osq⟩, hw''⟩ := hw'
  subst hw''
  go_wp2
  go_ret
  exact ⟨by simp, below_regrown _ _ _⟩
set_option maxHeartbeats 1000000 in
theorem search_at {w : World} {tb A B : Nat} {p : Option Addr} {n cap : Nat} {S : List Sp} {c : Nat} (hT : ∀ i, w.cell? ⟨tb, i, none⟩ = #[.slice p n cap][i]?) (hr : RowG Sp.cs 2 w p S) (hn : Hid (n = S.length)) (hm : n ≤ 1000000000) (hS : Rising S)
    (hA : w.cell? ⟨A, 0, none⟩ = some (.pointer (some ⟨tb, 0, none⟩))) (hB : w.cell? ⟨B, 0, none⟩ = some (.int .u32 (c : Nat))) :
    Calls Tryz.prog 108 #[.int .i64 (n : Nat), .func (.func 109) #[] #[.pointer (some ⟨A, 0, none⟩), .pointer (some ⟨B, 0, none⟩)]] w fun e w' => e = .returned (.int .i64 (firstN c S : Nat)) ∧ Below w.heap.size w w' := by
  obtain ⟨R, hR⟩ : ∃ R, Hid (firstN c S = R) := ⟨_, rfl⟩
  rw [hR.out]
  have HC : Hid (∀ (W : World) (i : Nat) (s : Sp), Below w.heap.size w W → S[i]? = some s → Calls Tryz.prog 109 #[.int .i64 (i : Nat), .pointer (some ⟨A, 0, none⟩), .pointer (some ⟨B, 0, none⟩)] W fun e w' => e = .returned (.bool (!decide (s.c < c))) ∧ Below W.heap.size W w') :=
    fun W i s hb hs => first_cl (p := p) (n := n) (cap := cap) (fun j => by
      cases j with
      | zero => exact cell_below hb (hT 0)
      | succ j => exact (hb.cell (p := ⟨tb, j + 1, none⟩) (World.block_lt_of_cell? w ⟨tb, 0, none⟩ (hT 0))).trans (hT (j + 1))) (hr.later hb) hn (by omega) (cell_below hb hA) (cell_below hb hB) hs
  clear hT hr hA hB
  go_enter Tryz.func108, Tryz.ntmps108
  go_wp2_with fail
  go_loopg [5, 6] n (fun gg s5 s6 wr => ∃ i j : Nat, i ≤ j ∧ j ≤ n ∧ j - i ≤ gg ∧ s5 = .int .i64 (i : Nat) ∧ s6 = .int .i64 (j : Nat) ∧ (∀ k a, k < i → S[k]? = some a → a.c < c) ∧ (∀ k a, j ≤ k → S[k]? = some a → c ≤ a.c) ∧ Below w.heap.size w wr)
  case atStart => exact ⟨0, n, by omega, by omega, by omega, rfl, rfl, fun k a hk => by omega, fun k a hk ha => by have := (List.getElem?_eq_some_iff.1 ha).1; have := hn.out; omega, Below.refl _ _⟩
  case round =>
    obtain ⟨i, j, hij, hj, hgg, rfl, rfl, h1, h2, hb⟩ := hrel
    have H1 := hid h1
    have H2 := hid h2
    clear h1 h2
    by_cases hlt : i < j
    · have hlt' : (i : Int) < (j : Int) := by omega
      obtain ⟨h, hh⟩ : ∃ h, Hid (h = (i + j) / 2) := ⟨_, rfl⟩
      have hh1 : ((i : Int) + (j : Int)) / 2 = (h : Int) := by rw [hh.out]; omega
      have hh2 : i ≤ h := by rw [hh.out]; omega
      have hh3 : h < j := by rw [hh.out]; omega
      obtain ⟨s, hs⟩ := get_some S h (by rw [← hn.out]; omega)
      have hcall := HC.out wr h s hb hs
      have HS := hid hs
      clear hs
      go_wp2_with fail
      refine hcall.mono ?_
      rintro x w2 ⟨rfl, hb2⟩
      have hB2 := below_on hb hb2
      clear hb2 hb hcall
      by_cases q : s.c < c
      · have Q := hid q
        have q' : decide (s.c < c) = true := by simpa using q
        rw [q']
        clear q q'
        go_wp2_with fail
        go_roundg (j - (h + 1))
        case measure => omega
        case rel =>
          refine ⟨h + 1, j, by omega, hj, by omega, by go_num, rfl, fun k a hk ha => ?_, H2.out, hB2⟩
          exact Nat.lt_of_le_of_lt (hS k h a s (by omega) ha HS.out) Q.out
      · have Q := hid q
        have q' : decide (s.c < c) = false := by simpa using q
        rw [q']
        clear q q'
        go_wp2_with fail
        go_roundg (h - i)
        case measure => omega
        case rel =>
          refine ⟨i, h, by omega, by omega, by omega, rfl, rfl, H1.out, fun k a hk ha => ?_, hB2⟩
          have := hS h k s a hk HS.out ha
          have := Q.out
          omega
    · obtain rfl : i = j := by omega
      have hlt' : ¬ (i : Int) < (i : Int) := by omega
      go_wp2_with fail
      go_ret
      exact ⟨congrArg (fun x : Nat => Ending.returned (.int .i64 (x : Nat))) ((firstN_eq (by rw [← hn.out]; exact hj) H1.out H2.out).symm.trans hR.out), hb⟩
theorem tree_first {w : World} {base tb : Nat} {v : Value} {S : List Sp} (h : Tr w base tb v S) (hl : S.length ≤ 1000000) (hS : Rising S) (c : Nat) :
    Calls Tryz.prog 79 #[.pointer (some ⟨tb, 0, none⟩), .int .u32 (c : Nat)] w fun e w' => e = .returned (.int .i64 (firstN c S : Nat)) ∧ Below w.heap.size w w' := by
  obtain ⟨p, cap, rfl, hr, hc, hm⟩ := h.row
  have hcell := (cells_at h.at_).1
  have hlt := lt_of_at h.at_
  have hne : tb ≠ w.heap.size := by omega
  have hne2 : tb ≠ w.heap.size + 1 := by omega
  obtain ⟨W1, hW1⟩ : ∃ W1, W1 = (w.alloc (.cells #[.pointer (some ⟨tb, 0, none⟩)] 57)).alloc (.cells #[.int .u32 (c : Nat)] 88) := ⟨_, rfl⟩
  have hB1 : Below w.heap.size w W1 := by rw [hW1]; exact below_on (below1 _ _) (below1 _ _)
  have hcon := search_at (w := W1) (tb := tb) (A := w.heap.size) (B := w.heap.size + 1) (p := p) (n := S.length) (cap := cap) (c := c) (fun i => by rw [hB1.cell (p := ⟨tb, i, none⟩) hlt]; exact hcell i) (hr.later hB1) rfl (by omega) hS (by rw [hW1]; simp) (by rw [hW1]; simp)
  rw [hW1] at hcon hB1
  clear hr h hc hW1
  obtain ⟨n, hn⟩ : ∃ n, Hid (S.length = n) := ⟨_, rfl⟩
  rw [hn.out] at hcon hcell
  obtain ⟨R, hR⟩ : ∃ R, Hid (firstN c S = R) := ⟨_, rfl⟩
  rw [hR.out] at hcon ⊢
  go_enter Tryz.func79, Tryz.ntmps79
  go_wp2_with fail
  refine hcon.mono ?_
  rintro x w2 ⟨rfl, hb2⟩
  go_wp2
  go_ret
  exact ⟨rfl, below_on hB1 hb2⟩
end
section
open Go.RowKit
set_option linter.unusedVariables false
def sideN (d : Nat) : Nat := 64 / 2 ^ d
def endN (s : Sq) : Nat := s.b + sideN s.d * sideN s.d
def plX (c : Nat) : Int := (gat c : Nat)
def plY (c : Nat) : Int := (gat (c / 2) : Nat)
def rectS (s : Sq) : Rc := ⟨plX s.b, plY s.b, plX s.b + (sideN s.d : Nat), plY s.b + (sideN s.d : Nat)⟩
theorem five {d : Nat} (h : d ≤ 4) : d = 0 ∨ d = 1 ∨ d = 2 ∨ d = 3 ∨ d = 4 := by omega
theorem sq_side (d b : Nat) (w : World) (hd : d ≤ 4) : Calls Tryz.prog 107 #[.agg #[.int .i64 (d : Nat), .int .u32 (b : Nat)]] w fun e w' => e = .returned (.int .i64 (sideN d : Nat)) ∧ Below w.heap.size w w' := by
  rcases five hd with rfl | rfl | rfl | rfl | rfl
  all_goals
    go_enter Tryz.func107, Tryz.ntmps107
    go_wp2
    go_ret
    exact ⟨rfl, below1 _ _⟩
theorem sq_end (d b : Nat) (w : World) (hd : d ≤ 4) (hb : b ≤ 100000) : Calls Tryz.prog 80 #[.agg #[.int .i64 (d : Nat), .int .u32 (b : Nat)]] w fun e w' => e = .returned (.int .u32 (endN ⟨d, b⟩ : Nat)) ∧ Below w.heap.size w w' := by
  have KT := grown_cells (new_at w (.cells #[.int .i64 (d : Nat), .int .u32 (b : Nat)] 108) _ rfl)
  have hs := fun w => sq_side d b w hd
  obtain ⟨m, hm⟩ : ∃ m, sideN d = m := ⟨_, rfl⟩
  have he : endN ⟨d, b⟩ = b + m * m := by unfold endN; simp only [hm]
  rw [he]
  rw [hm] at hs
  have hm2 : m ≤ 64 := by rw [← hm]; unfold sideN; exact Nat.div_le_self _ _
  have hmm : m * m ≤ 4096 := Nat.mul_le_mul hm2 hm2
  have hmz : (m : Int) * (m : Int) = ((m * m : Nat) : Int) := by simp
  obtain ⟨q, hq⟩ : ∃ q, m * m = q := ⟨_, rfl⟩
  rw [hq] at hmm hmz ⊢
  clear hm he hq
  go_enter Tryz.func80, Tryz.ntmps80
  go_wp2_with fail
  refine wp_region_quiet_below (by kernel_rfl) (by kernel_rfl) ?_
  repeat (first | go_big_quiet_skip | (go_big_quiet_want; go_big_quiet_op; first | go_big_quiet_on | go_big_quiet_call (exact Calls.regrown_of (hs _))))
  refine wpQuiet_nil ?_
  intro _ hw'
  obtain ⟨⟨dq, osq⟩, hw''⟩ := hw'
  subst hw''
  go_wp2
  go_ret
  exact ⟨by simp, below_on (below1 _ _) (below_regrown _ _ _)⟩
theorem quad_place (c : Nat) (hc : c < 4294967296) (w : World) (hM : Masks w) : Calls Tryz.prog 63 #[.int .u32 (c : Nat)] w fun e w' => e = .returned (pt (plX c) (plY c)) ∧ Below w.heap.size w w' := by
  have HM := hid (hM.below (below1 w (.cells #[.int .i64 0, .int .i64 0] 32)))
  clear hM
  have hc' : ((c : Int) : Int) = ((c : Nat) : Int) := rfl
  have e1 := gat_lt c
  have e2 := gat_lt (c / 2)
  have KN := hid (new_at w (.cells #[.int .i64 0, .int .i64 0] 32) _ rfl)
  unfold plX plY
  go_enter Tryz.func63, Tryz.ntmps63
  go_wp2_with fail
  refine (split_at c hc _ HM.out).mono ?_
  rintro x w2 ⟨rfl, hb2⟩
  have hK := cells_at (var_on hb2 KN.out (by simp))
  obtain ⟨x, hx⟩ : ∃ x, gat c = x := ⟨_, rfl⟩
  obtain ⟨y, hy⟩ : ∃ y, gat (c / 2) = y := ⟨_, rfl⟩
  rw [hx] at e1 ⊢
  rw [hy] at e2 ⊢
  go_wp2
  exact bodyPost_ret (v := pt x y) (by simp [results, Tryz.results63, go_sem, hK]) rfl ⟨by rw [hx, hy], by
    have := hb2.size
    simp at this
    exact ((below_on (below1 _ _) hb2).setCell (by simp) _).setCell (by simp) _⟩
theorem place_at {c : Nat} {x y : Int} (hc : c < 4294967296) (hx : Hid (plX c = x)) (hy : Hid (plY c = y)) (w : World) (hM : Masks w) : Calls Tryz.prog 63 #[.int .u32 (c : Nat)] w fun e w' => e = .returned (pt x y) ∧ Below w.heap.size w w' := by
  rw [← hx.out, ← hy.out]; exact quad_place c hc w hM
theorem pl_lt (c : Nat) : 0 ≤ plX c ∧ plX c < 65536 ∧ 0 ≤ plY c ∧ plY c < 65536 := by
  have e1 := gat_lt c
  have e2 := gat_lt (c / 2)
  unfold plX plY
  omega
theorem some_below {W w1 : World} {a : Addr} (hb : Below W.heap.size W w1) (h : (W.cell? a).isSome = true) : (w1.cell? a).isSome = true := by
  obtain ⟨v, hv⟩ := Option.isSome_iff_exists.1 h
  rw [cell_below hb hv]; rfl
theorem frozen_below {W w1 : World} {a : Addr} (hb : Below W.heap.size W w1) (h : W.frozen? a = false) (hc : (W.cell? a).isSome = true) : w1.frozen? a = false := by
  obtain ⟨v, hv⟩ := Option.isSome_iff_exists.1 hc
  rw [hb.frozen (World.block_lt_of_cell? W a hv)]; exact h
theorem frozen_at {W w1 : World} {a : Addr} {v : Value} (hb : Below W.heap.size W w1) (h : W.frozen? a = false) (hc : W.cell? a = some v) : w1.frozen? a = false := by
  rw [hb.frozen (World.block_lt_of_cell? W a hc)]; exact h
set_option maxHeartbeats 2000000 in
theorem sq_rect (d b : Nat) (w : World) (hM : Masks w) (hd : d ≤ 4) (hb : b ≤ 100000) : Calls Tryz.prog 76 #[.agg #[.int .i64 (d : Nat), .int .u32 (b : Nat)]] w fun e w' => e = .returned (rectS ⟨d, b⟩).v ∧ Below w.heap.size w w' := by
  obtain ⟨W0, hW0⟩ : ∃ W0, W0 = (w.alloc (.cells #[.int .i64 (d : Nat), .int .u32 (b : Nat)] 108)).alloc (.cells #[.int .i64 0, .int .i64 0, .int .i64 0, .int .i64 0] 25) := ⟨_, rfl⟩
  have hB0 : Below w.heap.size w W0 := by rw [hW0]; exact below_on (below1 _ _) (below1 _ _)
  have KB := hid (show W0.heap[w.heap.size]? = some (.cells #[.int .i64 (d : Nat), .int .u32 (b : Nat)] 108 (0, 0)) by rw [hW0]; exact old_at (new_at _ _ _ rfl) _)
  have KR := hid (show W0.heap[w.heap.size + 1]? = some (.cells #[.int .i64 0, .int .i64 0, .int .i64 0, .int .i64 0] 25 (0, 0)) by rw [hW0]; exact new_at _ _ _ (by simp))
  have HM := hid (hM.below hB0)
  clear hM
  have hs := fun w => sq_side d b w hd
  obtain ⟨m, hm⟩ : ∃ m, sideN d = m := ⟨_, rfl⟩
  have hm2 : m ≤ 64 := by rw [← hm]; unfold sideN; exact Nat.div_le_self _ _
  obtain ⟨h1, h2, h3, h4⟩ := pl_lt b
  obtain ⟨x, hx⟩ : ∃ x, Hid (plX b = x) := ⟨_, rfl⟩
  obtain ⟨y, hy⟩ : ∃ y, Hid (plY b = y) := ⟨_, rfl⟩
  have hres : (rectS ⟨d, b⟩).v = rc x y (x + (m : Int)) (y + (m : Int)) := by unfold rectS; simp only [hm, hx.out, hy.out]
  rw [hres]
  rw [hx.out] at h1 h2
  rw [hy.out] at h3 h4
  rw [hm] at hs
  clear hres hm
  have cB := cells_at KB.out
  go_enter Tryz.func76, Tryz.ntmps76
  go_wp2_with fail
  rw [← hW0]
  clear cB
  refine (place_at (by omega) hx hy _ HM.out).mono ?_
  rintro z w2 ⟨rfl, hb2⟩
  have hB2 := below_on hB0 hb2
  have hsz : w.heap.size + 2 ≤ w2.heap.size := by have := hb2.size; rw [hW0] at this; simpa using this
  have k1 := var_on hb2 KB.out (lt_of_at KB.out)
  have k2 := var_on hb2 KR.out (lt_of_at KR.out)
  clear hb2 hW0
  go_wp2_with fail
  obtain ⟨W3, hW3⟩ : ∃ W3, w2.alloc (.cells #[.int .i64 x, .int .i64 y] 32) = W3 := ⟨_, rfl⟩
  rw [hW3]
  have hB : Below w.heap.size w W3 := by rw [← hW3]; exact below_on hB2 (below1 _ _)
  have q1 := var2 (show W3.heap[w.heap.size]? = _ by rw [← hW3]; exact old_at k1 _)
  have q2 := var4 (show W3.heap[w.heap.size + 1]? = _ by rw [← hW3]; exact old_at k2 _)
  have q3 := var2 (show W3.heap[w2.heap.size]? = some (.cells #[.int .i64 x, .int .i64 y] 32 (0, 0)) by rw [← hW3]; exact new_at _ _ _ rfl)
  obtain ⟨c1, c2, -⟩ := q1
  obtain ⟨r1, r2, r3, r4, f1, f2, f3, f4⟩ := q2
  obtain ⟨p1, p2, -⟩ := q3
  clear hW3 k1 k2 hB2 KB KR HM
  have n1 : w2.heap.size ≠ w.heap.size + 1 := by omega
  have n2 : w2.heap.size ≠ w.heap.size := by omega
  have n3 : w.heap.size + 1 ≠ w2.heap.size := by omega
  go_region_held3 (fun w' => w'.cell? ⟨w.heap.size, 0, none⟩ = some (.int .i64 (d : Nat)) ∧ w'.cell? ⟨w.heap.size, 1, none⟩ = some (.int .u32 (b : Nat)) ∧ w'.cell? ⟨w2.heap.size, 0, none⟩ = some (.int .i64 x) ∧ w'.cell? ⟨w2.heap.size, 1, none⟩ = some (.int .i64 y))
    (first | go_keep | (go_split_ands; refine ⟨?_, ?_, ?_, ?_⟩ <;> exact cell_below hbK (by assumption)))
    (first
      | (go_at_call 107; refine (hs _).mono ?_; rintro z w1 ⟨rfl, hbK⟩; have hB : Below w.heap.size w w1 := (by first | exact below_on hB hbK | exact below_on hB.drew hbK)
         have f1 := frozen_at hbK f1 r1
         have f2 := frozen_at hbK f2 r2
         have f3 := frozen_at hbK f3 r3
         have f4 := frozen_at hbK f4 r4
         have r1 := cell_below hbK r1
         have r2 := cell_below hbK r2
         have r3 := cell_below hbK r3
         have r4 := cell_below hbK r4))
  have e1 : IntKind.i64.wrap (x + (m : Int)) = x + (m : Int) := by rw [IntKind.wrap_i64]; omega
  have e2 : IntKind.i64.wrap (y + (m : Int)) = y + (m : Int) := by rw [IntKind.wrap_i64]; omega
  all_goals
    go_wp2
    exact bodyPost_ret (v := rc x y (x + (m : Int)) (y + (m : Int))) (by simp [results, Tryz.results76, go_sem, *]) rfl ⟨rfl, below_set4 hB (by omega) _ _ _ _⟩
end
end Go.Proofs.YtfoncphdbaaedaaGreatDoor
