/- Contracts of the document's tree over this translation: Move, Drop. Each returns what the plain functions say; nothing else that was there is changed. -/
import Derived.Test.YtildhbkcpehobaaGreatDoorQdR
import Derived.Maps.AppendAt
namespace Go.Proofs.YtildhbkcpehobaaGreatDoor
open Go.RowKit
set_option linter.unusedVariables false
theorem marks_cell (S : List Mk) : ∀ u ∈ flatG Mk.cs S, u.oneCell' = true := by
  intro u hu
  obtain ⟨a, _, hu⟩ := List.mem_flatMap.1 hu
  simp [Mk.cs] at hu
  rcases hu with rfl | rfl | rfl <;> rfl
/-- append at a step of a region that draws: whatever is appended, nothing too -/
theorem step_append_any {P : Program} {w : World} {ops : Array Oper} {o : Oper} {a : Act} {K : Act → World → Prop} {Q : Exit → Act → World → Prop} {E : Prop} (hgd : o.guard = none) (s x : Operand) (t : TypeId)
    (ho : o.op = .call { callee := .builtin .append, args := #[s, x], argTypes := #[t, t] })
    (base : Nat) (e : TypeId) (i : TypeInfo) (z : Value) (size bytes : Nat) (ht : P.underlying t = some (.slice e)) (hi : P.info? e = some i) (hz : i.zero = some z)
    (hsize : i.size = size) (hby : i.bytes = bytes) (hzs : z.cells.size = size) (hsz : 0 < size)
    (v : Value) (n : Nat) (xs : List Value) (hs : a.eval s = v) (hown : w.ownsRow base e size v n xs)
    (ad : Addr) (m c : Nat) (news : List Value) (hx : a.eval x = .slice (some ad) m c) (hl : news.length = m * size) (hnews : ∀ j u, news[j]? = some u → w.cell? (ad.add j) = some u) (h1 : ∀ u ∈ news, u.oneCell' = true)
    (h63 : n + m ≤ maxLen) (hbytes : (n + m) * bytes ≤ 140737488355328) (hbase : base ≤ w.heap.size)
    (h : ∀ v' w', w'.ownsRow base e size v' (n + m) (xs ++ news) → w.grownBy w' v.ownBlock → (v'.ownBlock = v.ownBlock ∨ v'.ownBlock = some w.heap.size) → K (a.put o.dst v') w') :
    if Region.wanted o (yielded ops a.tmps) = true then Oper.wp P o a w K Q else E := by
  rw [if_pos (by simp [Region.wanted, hgd])]
  obtain ⟨v', w', hr, h2, h3, _, h5⟩ := run_append_own_at (P := P) w base t o.type e i z size bytes ht hi hz hsize hby hzs hsz v n xs hown ad m c news hl hnews h1 h63 hbytes hbase
  unfold Oper.wp execOp
  simp only [ho, resolve, invoke, builtin, Sem.run_bind, Sem.run_pure, Result.andThen_ok, List.map_toArray, List.map_cons, List.map_nil, hs, hx, hr]
  exact h v' w' h2 h3 h5
def rmvE (id x y : Int) (S : List Mk) : Int := if rfI id S < 0 then 15 else if onB x y = false then 14 else 0
def setM (S : List Mk) (k : Nat) (x y : Int) : List Mk := S.modify k fun s => ⟨s.id, x, y⟩
def rmvS (id x y : Int) (S : List Mk) : List Mk := if rmvE id x y S = 0 then setM S (rfI id S).toNat x y else S
def rdrE (id : Int) (S : List Mk) : Int := if rfI id S < 0 then 15 else 0
def rdrS (id : Int) (S : List Mk) : List Mk := if rfI id S < 0 then S else delS S (rfI id S).toNat
theorem setM_length (S : List Mk) (k : Nat) (x y : Int) : (setM S k x y).length = S.length := by simp [setM]
theorem setM_flat (x y : Int) : ∀ (S : List Mk) (k : Nat), k < S.length → flatG Mk.cs (setM S k x y) = ((flatG Mk.cs S).set (k * 3 + 1) (.int .i64 x)).set (k * 3 + 2) (.int .i64 y)
  | [], k, h => by simp at h
  | a :: l, 0, h => by simp [setM, flatG, Mk.cs]
  | a :: l, k + 1, h => by
    have ih := setM_flat x y l k (by simpa using h)
    have e1 : flatG Mk.cs (a :: l) = .int .i64 a.id :: .int .i64 a.x :: .int .i64 a.y :: flatG Mk.cs l := rfl
    have e2 : flatG Mk.cs (setM (a :: l) (k + 1) x y) = .int .i64 a.id :: .int .i64 a.x :: .int .i64 a.y :: flatG Mk.cs (setM l k x y) := by simp [setM, flatG, Mk.cs]
    rw [e1, e2, ih, show (k + 1) * 3 + 1 = k * 3 + 1 + 3 by omega, show (k + 1) * 3 + 2 = k * 3 + 2 + 3 by omega]
    simp only [List.set_cons_succ]
theorem ron_at {x y : Int} {q : Bool} (h : Hid (onB x y = q)) (w : World) : Calls Tryz.prog 30 #[pt x y] w fun e w' => e = .returned (.bool q) ∧ Below w.heap.size w w' := by
  rw [← h.out]; exact ref_on w x y
end Go.Proofs.YtildhbkcpehobaaGreatDoor
