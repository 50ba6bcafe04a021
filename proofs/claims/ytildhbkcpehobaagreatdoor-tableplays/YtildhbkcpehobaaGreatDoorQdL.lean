/- Plain facts on the walk over squares: which squares it finds, with a stack or by parts. No conditions beyond those typed. -/
import Derived.Test.YtildhbkcpehobaaGreatDoorQd4
import Derived.Test.YtildhbkcpehobaaGreatDoorQd5
namespace Go.Proofs.YtildhbkcpehobaaGreatDoor
open Go.RowKit
set_option linter.unusedVariables false
def missB (r : Rc) (s : Sq) : Bool := emptyB (meetR (rectS s) r)
def lvs (S : List Sp) (r : Rc) : Nat → Sq → List Sq
  | 0, s => if missB r s then [] else [s]
  | k + 1, s => if missB r s then [] else if splB S s then lvs S r k (partQ s 3) ++ (lvs S r k (partQ s 2) ++ (lvs S r k (partQ s 1) ++ lvs S r k (partQ s 0))) else [s]
/-- the squares that aren't split and have a point of r, of those in s -/
def lv (S : List Sp) (r : Rc) (s : Sq) : List Sq := lvs S r (4 - s.d) s
theorem lv_miss {S : List Sp} {r : Rc} {s : Sq} (h : missB r s = true) : lv S r s = [] := by
  unfold lv
  cases 4 - s.d <;> simp [lvs, h]
theorem lv_leaf {S : List Sp} {r : Rc} {s : Sq} (h : missB r s = false) (h2 : splB S s = false) : lv S r s = [s] := by
  unfold lv
  cases 4 - s.d <;> simp [lvs, h, h2]
theorem spl_lt {S : List Sp} {s : Sq} (h : splB S s = true) : s.d < 4 := by
  unfold splB at h
  simp at h
  exact h.1
theorem lv_split {S : List Sp} {r : Rc} {s : Sq} (h : missB r s = false) (h2 : splB S s = true) : lv S r s = lv S r (partQ s 3) ++ (lv S r (partQ s 2) ++ (lv S r (partQ s 1) ++ lv S r (partQ s 0))) := by
  have hd := spl_lt h2
  obtain ⟨k, hk⟩ : ∃ k, 4 - s.d = k + 1 := ⟨3 - s.d, by omega⟩
  have e : ∀ i, 4 - (partQ s i).d = k := fun i => by unfold partQ; simp only; omega
  unfold lv
  rw [e, e, e, e, hk]
  simp [lvs, h, h2]
def okQ (s : Sq) : Prop := s.d ≤ 4 ∧ endN s ≤ 4096
theorem four_end {s : Sq} (hd : s.d ≤ 3) : (partQ s 4).b = endN s := by
  unfold partQ endN qN
  simp only
  rcases (show s.d = 0 ∨ s.d = 1 ∨ s.d = 2 ∨ s.d = 3 by omega) with h | h | h | h <;> rw [h] <;> rfl
theorem part_le {s : Sq} {i j : Nat} (h : i ≤ j) : (partQ s i).b ≤ (partQ s j).b := by
  unfold partQ
  simp only
  have := Nat.mul_le_mul_right (qN s.d) h
  omega
theorem okQ_part {s : Sq} (h : okQ s) (hd : s.d ≤ 3) {i : Nat} (hi : i < 4) : okQ (partQ s i) := by
  refine ⟨by unfold partQ; simp only; omega, ?_⟩
  rw [end_part]
  have := part_le (s := s) (show i + 1 ≤ 4 by omega)
  rw [four_end hd] at this
  have := h.2
  omega
theorem okQ_root : okQ ⟨0, 0⟩ := ⟨by simp, by decide⟩
theorem okQ_b {s : Sq} (h : okQ s) : s.b ≤ 4096 := by
  have := endN_ge s
  have := h.2
  omega
/-- how much is left to do -/
def wt (K : List Sq) : Nat := (K.map fun s => 5 ^ (5 - s.d)).sum
theorem wt_append (K L : List Sq) : wt (K ++ L) = wt K + wt L := by simp [wt]
theorem wt_one (s : Sq) : wt [s] = 5 ^ (5 - s.d) := by simp [wt]
theorem wt_pos (s : Sq) : 1 ≤ 5 ^ (5 - s.d) := Nat.pos_of_ne_zero (by simp)
theorem wt_len (K : List Sq) : K.length ≤ wt K := by
  induction K with
  | nil => simp [wt]
  | cons s K ih =>
    have : wt (s :: K) = 5 ^ (5 - s.d) + wt K := by simp [wt]
    have := wt_pos s
    simp only [List.length_cons]
    omega
def fourL (s : Sq) : List Sq := [partQ s 0, partQ s 1, partQ s 2, partQ s 3]
theorem wt_four {s : Sq} (hd : s.d < 4) : wt (fourL s) + 1 ≤ 5 ^ (5 - s.d) := by
  have e : ∀ i, (partQ s i).d = s.d + 1 := fun i => rfl
  obtain ⟨k, hk⟩ : ∃ k, 5 - s.d = k + 1 := ⟨4 - s.d, by omega⟩
  have e2 : 5 - (s.d + 1) = k := by omega
  have hp : 1 ≤ 5 ^ k := Nat.pos_of_ne_zero (by simp)
  simp only [wt, fourL, List.map_cons, List.map_nil, List.sum_cons, List.sum_nil, e, e2, hk, Nat.pow_succ]
  omega
theorem todo_miss {S : List Sp} {r : Rc} {F K : List Sq} {s : Sq} (h : missB r s = true) : F ++ (K ++ [s]).reverse.flatMap (lv S r) = F ++ K.reverse.flatMap (lv S r) := by
  simp [lv_miss h]
theorem todo_leaf {S : List Sp} {r : Rc} {F K : List Sq} {s : Sq} (h : missB r s = false) (h2 : splB S s = false) : F ++ (K ++ [s]).reverse.flatMap (lv S r) = (F ++ [s]) ++ K.reverse.flatMap (lv S r) := by
  simp [lv_leaf h h2]
theorem todo_split {S : List Sp} {r : Rc} {F K : List Sq} {s : Sq} (h : missB r s = false) (h2 : splB S s = true) : F ++ (K ++ [s]).reverse.flatMap (lv S r) = F ++ (K ++ fourL s).reverse.flatMap (lv S r) := by
  simp [lv_split h h2, fourL]
theorem owns_cut {α : Type} {cs : α → List Value} {z : Nat} (hz : ∀ a, (cs a).length = z) {W : World} {base : Nat} {e : TypeId} {p : Option Addr} {n cap : Nat} {L : List α} {s : α} (h : W.ownsRow base e z (.slice p (n + 1) cap) (n + 1) (flatG cs (L ++ [s]))) (hn : L.length = n) : W.ownsRow base e z (.slice p n cap) n (flatG cs L) := by
  refine ⟨by rw [flatG_length hz, hn], ?_⟩
  rcases h.2 with ⟨_, h2⟩ | ⟨g, cap', cur, h1, h2, h3, h4, h5, h6, h7⟩
  · omega
  · simp only [Value.slice.injEq] at h1
    obtain ⟨rfl, _, rfl⟩ := h1
    refine .inr ⟨g, cap, cur, rfl, h2, h3, by omega, h5, h6, ?_⟩
    have e1 : cur.toList.take (n * z) = (cur.toList.take ((n + 1) * z)).take (n * z) := by
      rw [List.take_take, Nat.min_eq_left (Nat.mul_le_mul_right z (by omega))]
    rw [e1, h7, flatG_append, List.take_append_of_le_length (by rw [flatG_length hz, hn]; omega), List.take_of_length_le (by rw [flatG_length hz, hn]; omega)]
theorem owns_some {W : World} {base : Nat} {e : TypeId} {size : Nat} {p : Option Addr} {n cap : Nat} {xs : List Value} (h : W.ownsRow base e size (.slice p n cap) n xs) (hn : 0 < n) : ∃ g, p = some ⟨g, 0, none⟩ ∧ base ≤ g ∧ g < W.heap.size ∧ n ≤ cap ∧ cap ≤ maxLen := by
  rcases h.2 with ⟨_, h2⟩ | ⟨g, cap', cur, h1, h2, h3, h4, h5, h6, h7⟩
  · omega
  · simp only [Value.slice.injEq] at h1
    obtain ⟨rfl, _, rfl⟩ := h1
    exact ⟨g, rfl, h2, lt_of_at h3, h4, h5⟩
theorem one_cell (s : Sq) : ∀ u ∈ s.cs, u.oneCell' = true := by
  intro u hu
  simp [Sq.cs] at hu
  rcases hu with rfl | rfl <;> rfl
theorem four_cell (s : Sq) : ∀ u ∈ flatG Sq.cs (fourL s), u.oneCell' = true := by
  intro u hu
  simp [flatG, fourL, Sq.cs] at hu
  rcases hu with h | h | h | h | h | h | h | h <;> subst h <;> rfl
end Go.Proofs.YtildhbkcpehobaaGreatDoor
