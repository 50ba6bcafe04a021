/- Contracts of the tree's look-ups over this translation: find, first and what they call. Each returns what the plain functions say, and changes nothing that was there. -/
import Derived.Test.YtildhbkcpehobaaGreatDoorQdP
import Derived.Deep.LoopGhost
namespace Go.Proofs.YtildhbkcpehobaaGreatDoor
open Go.RowKit
set_option linter.unusedVariables false
/-- the tree behind a pointer: its block holds the slice v, whose row is S -/
structure Tr (W : World) (base tb : Nat) (v : Value) (S : List Sp) : Prop where
  at_ : W.heap[tb]? = some (.cells #[v] 77 (0, 0))
  own : W.ownsRow base 82 2 v S.length (flatG Sp.cs S)
  ne : tb ∉ ob v
  lo : base ≤ tb
def findI (id : Int) (S : List Sp) : Int := match S.findIdx? (fun s => s.id == id) with | some i => (i : Int) | none => -1
def firstN (c : Nat) (S : List Sp) : Nat := S.countP (fun s => decide (s.c < c))
def Rising (S : List Sp) : Prop := ∀ (i j : Nat) (a b : Sp), i ≤ j → S[i]? = some a → S[j]? = some b → a.c ≤ b.c
theorem firstN_le (c : Nat) (S : List Sp) : firstN c S ≤ S.length := List.countP_le_length
theorem firstN_eq {c : Nat} {S : List Sp} {i : Nat} (hi : i ≤ S.length) (h1 : ∀ j a, j < i → S[j]? = some a → a.c < c) (h2 : ∀ j a, i ≤ j → S[j]? = some a → c ≤ a.c) : firstN c S = i := by
  unfold firstN
  have e : S = S.take i ++ S.drop i := (List.take_append_drop i S).symm
  have e1 : (S.take i).countP (fun s => decide (s.c < c)) = (S.take i).length := by
    rw [List.countP_eq_length]
    intro a ha
    obtain ⟨j, hj, rfl⟩ := List.getElem_of_mem ha
    have hj' : j < i := by rw [List.length_take] at hj; omega
    have := h1 j (S.take i)[j] hj' (by rw [← List.getElem?_eq_getElem hj, List.getElem?_take, if_pos hj'])
    simpa using this
  have e2 : (S.drop i).countP (fun s => decide (s.c < c)) = 0 := by
    rw [List.countP_eq_zero]
    intro a ha
    obtain ⟨j, hj, rfl⟩ := List.getElem_of_mem ha
    have := h2 (i + j) (S.drop i)[j] (by omega) (by rw [← List.getElem?_drop]; exact List.getElem?_eq_getElem hj)
    simp only [decide_eq_true_eq]; omega
  calc S.countP (fun s => decide (s.c < c)) = (S.take i ++ S.drop i).countP (fun s => decide (s.c < c)) := by rw [← e]
    _ = i := by rw [List.countP_append, e1, e2, List.length_take]; omega
theorem findI_hit {id : Int} {S : List Sp} {k : Nat} {s : Sp} (hk : S[k]? = some s) (hs : s.id = id) (hl : ∀ j a, j < k → S[j]? = some a → ¬ a.id = id) : findI id S = k := by
  have : S.findIdx? (fun s => s.id == id) = some k := by
    rw [List.findIdx?_eq_some_iff_getElem]
    obtain ⟨hlt, he⟩ := List.getElem?_eq_some_iff.1 hk
    refine ⟨hlt, by rw [he]; simp [hs], fun j hj => ?_⟩
    have := hl j (S[j]'(by omega)) hj (by simp)
    simpa using this
  unfold findI
  rw [this]
theorem findI_miss {id : Int} {S : List Sp} (hl : ∀ j a, j < S.length → S[j]? = some a → ¬ a.id = id) : findI id S = -1 := by
  have : S.findIdx? (fun s => s.id == id) = none := by
    rw [List.findIdx?_eq_none_iff]
    intro a ha
    obtain ⟨j, hj, rfl⟩ := List.getElem_of_mem ha
    have := hl j S[j] hj (by simp)
    simpa using this
  unfold findI
  rw [this]
theorem find_cl (id : Int) (B : Nat) (w : World) (s : Sp) (hc : w.cell? ⟨B, 0, none⟩ = some (.int .i64 id)) :
    Calls Tryz.prog 63 #[s.v, .pointer (some ⟨B, 0, none⟩)] w fun e w' => e = .returned (.bool (s.id == id)) ∧ Below w.heap.size w w' := by
  have hlt := World.block_lt_of_cell? w _ hc
  have hne : B ≠ w.heap.size := by simp at hlt; omega
  go_enter Tryz.func63, Tryz.ntmps63
  go_wp2
  go_ret
  exact ⟨rfl, below1 _ _⟩
set_option maxHeartbeats 1000000 in
theorem index_func (id : Int) (B : Nat) (w : World) (p : Option Addr) (cap : Nat) (S : List Sp) (hr : RowG Sp.cs 2 w p S) (hm : S.length ≤ maxLen) (hB : w.cell? ⟨B, 0, none⟩ = some (.int .i64 id)) :
    Calls Tryz.prog 62 #[.slice p S.length cap, .func (.func 63) #[] #[.pointer (some ⟨B, 0, none⟩)]] w fun e w' => e = .returned (.int .i64 (findI id S)) ∧ Below w.heap.size w w' := by
  obtain ⟨n, hn⟩ : ∃ n, Hid (S.length = n) := ⟨_, rfl⟩
  rw [hn.out] at hm ⊢
  have hm' : n ≤ 9223372036854775807 := by unfold maxLen at hm; omega
  obtain ⟨R, hR⟩ : ∃ R, Hid (findI id S = R) := ⟨_, rfl⟩
  rw [hR.out]
  have HB := hid hB
  clear hB
  have HC : Hid (∀ (W : World) (s : Sp), Below w.heap.size w W → Calls Tryz.prog 63 #[s.v, .pointer (some ⟨B, 0, none⟩)] W fun e w' => e = .returned (.bool (s.id == id)) ∧ Below W.heap.size W w') := fun W s hb => find_cl id B W s (cell_below hb HB.out)
  go_enter Tryz.func62, Tryz.ntmps62
  go_wp2_with fail
  go_loopw [8] (fun i wr => ∃ k : Nat, k ≤ n ∧ i = .int .i64 k ∧ (∀ j a, j < k → S[j]? = some a → ¬ a.id = id) ∧ Below w.heap.size w wr) (fun i _ => n - (intOf i).toNat)
  case atStart => exact ⟨0, by omega, rfl, fun j t hj => by omega, Below.refl _ _⟩
  case round =>
    obtain ⟨k, hk, rfl, hok, hb⟩ := hrel
    have HO := hid hok
    clear hok
    by_cases hlt : k < n
    · have hlt' : (k : Int) < (n : Int) := by omega
      obtain ⟨t, ht⟩ := get_some S k (by rw [hn.out]; exact hlt)
      obtain ⟨b, off, rfl, hc⟩ := spot_at (hr.later hb) ht
      have HT := hid ht
      clear ht
      go_wp2_with fail
      refine (HC.out _ t hb).mono ?_
      rintro x w2 ⟨rfl, hb2⟩
      have hB2 := below_on hb hb2
      clear hb2 hb hc
      by_cases q : t.id = id
      · have q' : (t.id == id) = true := by simpa using q
        rw [q']
        go_wp2_with fail
        go_ret; exact ⟨congrArg (fun x => Ending.returned (.int .i64 x)) ((findI_hit HT.out q HO.out).symm.trans hR.out), hB2⟩
      · have q' : (t.id == id) = false := by simpa using q
        rw [q']
        have Q := hid q
        clear q q'
        go_wp2_with fail
        go_roundw
        case rel =>
          refine ⟨k + 1, by omega, by go_num, fun j u hj hu => ?_, hB2⟩
          by_cases e : j = k
          · subst e
            have := Option.some.inj (HT.out.symm.trans hu)
            subst this
            exact Q.out
          · exact HO.out j u (by omega) hu
        case measure => simp [intOf]; omega
    · obtain rfl : k = n := by omega
      have hlt' : ¬ (k : Int) < (k : Int) := by omega
      go_wp2_with fail
      go_ret
      exact ⟨congrArg (fun x => Ending.returned (.int .i64 x)) ((findI_miss (fun j t hj => HO.out j t (by rw [← hn.out]; exact hj))).symm.trans hR.out), hb⟩
end Go.Proofs.YtildhbkcpehobaaGreatDoor
