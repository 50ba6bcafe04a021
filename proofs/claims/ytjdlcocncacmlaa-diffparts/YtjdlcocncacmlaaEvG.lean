/- Contract of find of the package event: where a thing stands in a row that rises, or would have to. -/
import Derived.Test.YtjdlcocncacmlaaEvD
import Derived.Lib.MinMax
namespace Go.Proofs.Ytjdlcocncacmlaa
open Go.RowKit
set_option linter.unusedVariables false
theorem has_none {id : Int} {L : List Th} (h : ∀ (j : Nat) a, j < L.length → L[j]? = some a → ¬ a.id = id) : hasT id L = false := by
  cases hh : hasT id L with
  | false => rfl
  | true =>
    obtain ⟨a, ha, e⟩ := has_iff.1 hh
    obtain ⟨j, hj, rfl⟩ := List.getElem_of_mem ha
    exact absurd e (h j _ hj (by simp [hj]))
set_option maxRecDepth 100000 in
set_option maxHeartbeats 2000000 in
theorem event_find {w : World} {p : Option Addr} {cap n m : Nat} {L : List Th} {id : Int} {b : Bool} (hr : RowT w p L) (hR : Rise L) (hn : Hid (L.length = n)) (hl : n ≤ 1000) (hm : Hid (posT id L = m)) (hb : Hid (hasT id L = b)) :
    Calls Try.prog 29 #[.slice p n cap, .int .i64 id] w fun e w' => e = .returned (.tuple #[.int .i64 m, .bool b]) ∧ Below w.heap.size w w' := by
  have HR := hid hr
  have HRi := hid hR
  have hmn : m ≤ n := by rw [← hm.out, ← hn.out]; exact posT_le id L
  clear hr hR
  go_enter Try.func29, Try.ntmps29
  go_wp2_with fail
  go_loopw [6, 13] (fun at_ i wr => ∃ k a : Nat, k ≤ n ∧ i = .int .i64 k ∧ at_ = .int .i64 a ∧ Hid (∀ (j : Nat) t, j < k → L[j]? = some t → ¬ t.id = id) ∧ ((m < k ∧ a = m) ∨ (k ≤ m ∧ a = n)) ∧ Below w.heap.size w wr) (fun _ i _ => n - (intOf i).toNat)
  case atStart => exact ⟨0, n, by omega, rfl, rfl, hid (fun j t hj => by omega), by omega, Below.refl _ _⟩
  case round =>
    obtain ⟨k, a, hk, rfl, rfl, HO, ha, hb1⟩ := hrel
    by_cases hlt : k < n
    · have hlt' : (k : Int) < (n : Int) := by omega
      obtain ⟨t, ht⟩ := get_th L k (by rw [hn.out]; exact hlt)
      obtain ⟨g, off, rfl, hc⟩ := (HR.out.later hb1).at ht
      have HT := hid ht
      have hs := hb1.size
      clear ht
      by_cases he : t.id = id
      · have e1 : (t.id == id) = true := by simpa using he
        have hk2 : k = m := by rw [← hm.out]; exact (posT_hit HRi.out HT.out he).symm
        have hb2 : b = true := by rw [← hb.out]; exact has_iff.2 ⟨t, List.mem_of_getElem? HT.out, he⟩
        clear he ha
        subst hk2 hb2
        go_wp2_with fail
        exact bodyPost_ret (v := .tuple #[.int .i64 k, .bool true]) (by simp [results, Try.results29, go_sem]) rfl ⟨rfl, hb1.alloc hs _⟩
      · have e1 : (t.id == id) = false := by simpa using he
        have HN := hid (show ∀ (j : Nat) u, j < k + 1 → L[j]? = some u → ¬ u.id = id from fun j u hj hu => by
          by_cases e : j = k
          · subst e
            have := Option.some.inj (HT.out.symm.trans hu)
            subst this
            exact he
          · exact HO.out j u (by omega) hu)
        by_cases hg : id < t.id
        · have e2 : decide (id < t.id) = true := by simpa using hg
          have hmk : m ≤ k := by
            rcases Nat.lt_or_ge k m with h | h
            · exfalso
              have h2 : posT id L = m := hm.out
              have hlt2 : ∀ (L : List Th) (k : Nat) (t : Th), L[k]? = some t → k < posT id L → t.id < id := by
                intro L
                induction L with
                | nil => intro k t h _; simp at h
                | cons c r ih =>
                  intro k t h hk
                  unfold posT at hk
                  split at hk
                  · cases k with
                    | zero => simp at h; subst h; assumption
                    | succ k => exact ih k t (by simpa using h) (by omega)
                  · omega
              have := hlt2 L k t HT.out (by omega)
              omega
            · exact h
          clear he hg
          have hmin : min (a : Int) (k : Int) = (m : Int) := by omega
          go_wp2_with fail
          go_roundw
          case rel => exact ⟨k + 1, m, by omega, by go_num, by first | rfl | (rw [hmin]), HN, by omega, hb1.alloc hs _⟩
          case measure => simp [intOf]; omega
        · have e2 : decide (id < t.id) = false := by simpa using hg
          have hmk : ¬ m = k := by
            intro e
            subst e
            have := posT_at (id := id) (L := L) (a := t) (by rw [hm.out]; exact HT.out)
            omega
          clear he hg
          go_wp2_with fail
          go_roundw
          case rel => exact ⟨k + 1, a, by omega, by go_num, rfl, HN, by omega, hb1.alloc hs _⟩
          case measure => simp [intOf]; omega
    · obtain rfl : k = n := by omega
      have hlt' : ¬ (k : Int) < (k : Int) := by omega
      have ham : a = m := by omega
      have hb2 : b = false := by rw [← hb.out]; exact has_none (fun j u hj hu => HO.out j u (by rw [← hn.out]; exact hj) hu)
      subst ham hb2
      clear ha
      go_wp2_with fail
      exact bodyPost_ret (v := .tuple #[.int .i64 a, .bool false]) (by simp [results, Try.results29, go_sem]) rfl ⟨rfl, hb1⟩
end Go.Proofs.Ytjdlcocncacmlaa
