/- Plain: notes of one thing and of one or two hands: which of them are notes; laws for notes and things that are loaded and stored whole. -/
import Derived.Test.YtpedngbjpbeanaaDoorNtSp
import Derived.Deep.Cut
import Derived.OneCell
namespace Go.Proofs.YtpedngbjpbeanaaDoor
open Go.RowKit
set_option linter.unusedVariables false
def nC (hs : List Hd) (mo gi : List Th) : Nt := ⟨0, 2, mo, hs, gi, []⟩
def tC (x y : Int) : Th := ⟨5, x, y, zF, zF, zF, zF⟩
theorem tC_is {x y : Int} (h : 0 ≤ x ∧ x < 64 ∧ 0 ≤ y ∧ y < 64) : isT (tC x y) = true := by
  have e := (onB_iff x y).2 h
  have e1 : (tC x y).x = x := rfl
  have e2 : (tC x y).y = y := rfl
  unfold isT isTK isTK isTK isTK isTK
  rw [e1, e2, e]
  rfl
theorem cell_n {hs : List Hd} (h : handsR 0 2 (-1) hs = true) : isN (nC hs [] []) 2 = true := by
  unfold isN nC
  rw [show min (2 : Int) 4 = 2 from rfl]
  simp only [h]
  rfl
theorem cell_g {hs : List Hd} {x y : Int} (h : handsR 0 2 (-1) hs = true) (ht : isT (tC x y) = true) : isN (nC hs [] [tC x y]) 2 = leftB hs (ofN x y) := by
  unfold isN nC
  rw [show min (2 : Int) 4 = 2 from rfl]
  have e1 : standB (leftB hs) false [] = true := rfl
  have e2 : standB (leftB hs) true [tC x y] = leftB hs (ofN x y) := by
    unfold standB standR standR standG
    rw [ht]
    show (decide (1 ≤ 200) && ((leftB hs (ofN x y) == true) && true && decide ((-1 : Int) < 5) && true)) = _
    cases leftB hs (ofN x y) <;> rfl
  have e3 : belB 0 2 = true := rfl
  have e4 : belB 2 1073741825 = true := rfl
  have e5 : watB [] = true := rfl
  simp only [h, e1, e2, e3, e4, e5, Bool.true_and, Bool.and_true]
theorem cell_m {hs : List Hd} {x y : Int} (h : handsR 0 2 (-1) hs = true) (ht : isT (tC x y) = true) : isN (nC hs [tC x y] []) 2 = !leftB hs (ofN x y) := by
  unfold isN nC
  rw [show min (2 : Int) 4 = 2 from rfl]
  have e1 : standB (leftB hs) true [] = true := rfl
  have e2 : standB (leftB hs) false [tC x y] = !leftB hs (ofN x y) := by
    unfold standB standR standR standG
    rw [ht]
    show (decide (1 ≤ 200) && ((leftB hs (ofN x y) == false) && true && decide ((-1 : Int) < 5) && true)) = _
    cases leftB hs (ofN x y) <;> rfl
  have e3 : belB 0 2 = true := rfl
  have e4 : belB 2 1073741825 = true := rfl
  have e5 : watB [] = true := rfl
  simp only [h, e1, e2, e3, e4, e5, Bool.true_and, Bool.and_true]
theorem hands_one {a : Int} (h : 0 ≤ a ∧ a < 16) : handsR 0 2 (-1) [⟨a, 1⟩] = true := by
  unfold handsR handsR handG isC belB
  simp
  omega
theorem hands_two {a b : Int} (h : 0 ≤ a ∧ a < 16) (h2 : 0 ≤ b ∧ b < 16) (hl : a < b) : handsR 0 2 (-1) [⟨a, 1⟩, ⟨b, 1⟩] = true := by
  unfold handsR handsR handsR handG isC belB
  simp
  omega
theorem left_one (a : Int) (c : Nat) : leftB [⟨a, 1⟩] c = (a == (c : Int)) := by simp [leftB]
theorem left_two (a b : Int) (c : Nat) : leftB [⟨a, 1⟩, ⟨b, 1⟩] c = (a == (c : Int) || b == (c : Int)) := by simp [leftB]
theorem exec_load_nt {o : Oper} {a : Act} {W : World} (x : Operand) (ho : o.op = .load 26 x) {g : Nat} {c : Nt} {q : Ns} (hx : a.eval x = .pointer (some ⟨g, 0, none⟩)) (h : W.heap[g]? = some (c.o q)) : (execOp a.eval o).run Tryd.prog W = .ok (.value (c.v q)) W := by
  have e0 : (Instr.loadAt 26 (.pointer (some ⟨g, 0, none⟩))).run Tryd.prog W = .ok (c.v q) W := by
    simp only [Instr.loadAt, Instr.sureAddr, Sem.run_bind, Sem.run_pure, Result.andThen_ok]
    exact run_loadVar_row W g _ _ _ _ _ h Tryd.underlying26 rfl Tryd.sizeNt
  unfold execOp
  simp only [ho, hx, Sem.run_bind, e0, Result.andThen_ok, Sem.run_pure]
theorem step_store_nt {ops : Array Oper} {o : Oper} {a : Act} {W : World} {K : Act → World → Prop} {Q : Exit → Act → World → Prop} {E : Prop} (hgd : o.guard = none) (x y : Operand) (ho : o.op = .store 26 x y)
    {g : Nat} {c d : Nt} {q r : Ns} (hx : a.eval x = .pointer (some ⟨g, 0, none⟩)) (hy : a.eval y = c.v q) (h : W.heap[g]? = some (d.o r)) (k : ∀ W', W'.heap[g]? = some (c.o q) → But g W W' → W'.heap.size = W.heap.size → K (a.put o.dst undef) W') :
    if Region.wanted o (yielded ops a.tmps) = true then Oper.wp Tryd.prog o a W K Q else E := by
  have hw : Region.wanted o (yielded ops a.tmps) = true := by simp [Region.wanted, hgd]
  rw [if_pos hw]
  exact wp_store_row 26 x y ho g _ hx hy _ _ h Tryd.sizeNt rfl (by simp [Value.oneCell']) (k _ (setRow_heap W g _ _ _ _ h) ⟨rfl, rfl, rfl, by simp, fun i hi hg => setRow_other W g i _ hg⟩ (by simp))
theorem wpList_load_thG {ops : Array Oper} {rest : List Oper} {o : Oper} {a : Act} {W : World} {Q : Exit → Act → World → Prop} (hw : Region.wanted o (yielded ops a.tmps) = true) (x : Operand) (ho : o.op = .load 54 x)
    {g : Nat} {c : Th} (hx : a.eval x = .pointer (some ⟨g, 0, none⟩)) (h : W.heap[g]? = some c.o) (k : wpList Tryd.prog ops Q rest (a.put o.dst c.v) W) : wpList Tryd.prog ops Q (o :: rest) a W := by
  rw [wpList, if_pos hw]
  exact .inl (wp_load_row _ x ho g hx _ _ _ _ h Tryd.underlying54 rfl Tryd.sizeTh k)
theorem ask_nC {hs : List Hd} {mo gi : List Th} {x y : Int} (hh : hs.length ≤ 2) (hm : mo = [] ∨ mo = [tC x y]) (hg : gi = [] ∨ gi = [tC x y]) : AskN (nC hs mo gi) := by
  have ht : inT (tC x y) := ⟨fit_zF, fit_zF, fit_zF, fit_zF⟩
  have hl : ∀ l : List Th, l = [] ∨ l = [tC x y] → (∀ t ∈ l, inT t) ∧ l.length ≤ 1 := by
    intro l h
    rcases h with rfl | rfl
    · exact ⟨fun t h => by simp at h, by simp⟩
    · exact ⟨fun t h => by rw [List.mem_singleton.1 h]; exact ht, by simp⟩
  obtain ⟨m1, m2⟩ := hl _ hm
  obtain ⟨g1, g2⟩ := hl _ hg
  have big : 2 ≤ maxLen := by unfold maxLen; omega
  exact ⟨m1, g1, fun c hc => by simp [nC] at hc, ⟨by show mo.length ≤ _; omega, by show hs.length ≤ _; omega, by show gi.length ≤ _; omega, by show ([] : List Cm).length ≤ _; simp⟩⟩
theorem cell_bits {X Y cx cy : Int} (bX : 0 ≤ X ∧ X < 64) (bY : 0 ≤ Y ∧ Y < 64) (hx : X / 16 = cx) (hy : Y / 16 = cy) :
    bits .or .i64 (bits .or .i64 (bits .or .i64 (bits .and .i64 cx 1) (wrap64 (bits .and .i64 cy 1 * 2))) (wrap64 (bits .and .i64 cx 2 * 2))) (wrap64 (bits .and .i64 cy 2 * 4)) = ((ofN X Y : Nat) : Int) := by
  unfold ofN
  rw [if_pos ((onB_iff X Y).2 ⟨bX.1, bX.2, bY.1, bY.2⟩), hx, hy]
  have h1 : cx = 0 ∨ cx = 1 ∨ cx = 2 ∨ cx = 3 := by omega
  have h2 : cy = 0 ∨ cy = 1 ∨ cy = 2 ∨ cy = 3 := by omega
  rcases h1 with rfl | rfl | rfl | rfl <;> rcases h2 with rfl | rfl | rfl | rfl <;> (clear hx hy bX bY; decide +kernel)
end Go.Proofs.YtpedngbjpbeanaaDoor
