/- Contract of the document's tree over this translation: Put. It returns what the plain functions say; nothing else that was there is changed. -/
import Derived.Test.YtildhbkcpehobaaGreatDoorQdS
namespace Go.Proofs.YtildhbkcpehobaaGreatDoor
open Go.RowKit
set_option linter.unusedVariables false
def rptE (id x y : Int) (S : List Mk) : Int := if id < 0 then 11 else if onB x y = false then 14 else if 0 ≤ rfI id S then 11 else if 200 ≤ S.length then 16 else 0
/-- how many stand ahead of id -/
def ahead (id : Int) (S : List Mk) : Nat := (S.takeWhile fun s => decide (s.id < id)).length
def rptS (id x y : Int) (S : List Mk) : List Mk := if rptE id x y S = 0 then insS S (ahead id S) ⟨id, x, y⟩ else S
theorem ahead_eq {id : Int} {S : List Mk} {k : Nat} (hk : k ≤ S.length) (h1 : ∀ j a, j < k → S[j]? = some a → a.id < id) (h2 : ∀ a, S[k]? = some a → ¬ a.id < id) : ahead id S = k := by
  induction S generalizing k with
  | nil => simp [ahead] at hk ⊢; exact hk.symm
  | cons a l ih =>
    cases k with
    | zero =>
      have := h2 a rfl
      simp [ahead, this]
    | succ k =>
      have h0 : a.id < id := h1 0 a (by omega) rfl
      have := ih (k := k) (by simpa using hk) (fun j b hj hb => h1 (j + 1) b (by omega) (by simpa using hb)) (fun b hb => h2 b (by simpa using hb))
      unfold ahead at this ⊢
      rw [List.takeWhile_cons, if_pos (by simpa using h0), List.length_cons, this]
theorem set3_flat (m : Mk) : ∀ (S : List Mk) (k : Nat), k < S.length → flatG Mk.cs (S.set k m) = (((flatG Mk.cs S).set (k * 3) (.int .i64 m.id)).set (k * 3 + 1) (.int .i64 m.x)).set (k * 3 + 2) (.int .i64 m.y)
  | [], k, h => by simp at h
  | a :: l, 0, h => by simp [flatG, Mk.cs]
  | a :: l, k + 1, h => by
    have ih := set3_flat m l k (by simpa using h)
    have e1 : flatG Mk.cs (a :: l) = .int .i64 a.id :: .int .i64 a.x :: .int .i64 a.y :: flatG Mk.cs l := rfl
    have e2 : flatG Mk.cs ((a :: l).set (k + 1) m) = .int .i64 a.id :: .int .i64 a.x :: .int .i64 a.y :: flatG Mk.cs (l.set k m) := rfl
    rw [e1, e2, ih, show (k + 1) * 3 = k * 3 + 3 by omega, show k * 3 + 3 + 1 = k * 3 + 1 + 3 by omega, show k * 3 + 3 + 2 = k * 3 + 2 + 3 by omega]
    simp only [List.set_cons_succ]
theorem insS_step {α : Type} {S : List α} {j : Nat} {a x : α} (h : S[j]? = some a) : (insS S (j + 1) x).set (j + 1) a = insS S j a := by
  have hj : j < S.length := (List.getElem?_eq_some_iff.1 h).1
  have e : S[j] = a := (List.getElem?_eq_some_iff.1 h).2
  unfold insS
  have l1 : (S.take (j + 1)).length = j + 1 := by rw [List.length_take]; omega
  rw [List.set_append_right _ _ (by omega), l1, Nat.sub_self, List.set_cons_zero, List.take_add_one, h, List.drop_eq_getElem_cons hj, e]
  simp
theorem insS_set {α : Type} {S : List α} {j : Nat} (hj : j ≤ S.length) (a x : α) : (insS S j x).set j a = insS S j a := by
  unfold insS
  have l1 : (S.take j).length = j := by rw [List.length_take]; omega
  rw [List.set_append_right _ _ (by omega), l1, Nat.sub_self, List.set_cons_zero]
theorem insS_get {α : Type} {S : List α} {j : Nat} {a x : α} (h : S[j]? = some a) : (insS S (j + 1) x)[j]? = some a := by
  unfold insS
  have hj : j < S.length := (List.getElem?_eq_some_iff.1 h).1
  rw [List.getElem?_append_left (by rw [List.length_take]; omega), List.getElem?_take, if_pos (by omega)]
  exact h
theorem off_set3 (W : World) (g k : Nat) (u0 u1 u2 : Value) : Off [g] W (((W.setCell ⟨g, k, none⟩ u0).setCell ⟨g, k + 1, none⟩ u1).setCell ⟨g, k + 2, none⟩ u2) :=
  ((Off.setCell W g k u0).trans (Off.setCell _ g _ _) (fun y hy => .inl hy)).trans (Off.setCell _ g _ _) (fun y hy => .inl hy)
end Go.Proofs.YtildhbkcpehobaaGreatDoor
