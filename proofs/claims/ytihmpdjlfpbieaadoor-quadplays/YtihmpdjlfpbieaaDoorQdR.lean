/- Contracts of the document's tree over this translation: at, At, Move, Drop. Each returns what the plain functions say; nothing else that was there is changed. -/
import Derived.Test.YtihmpdjlfpbieaaDoorQdT
namespace Go.Proofs.YtihmpdjlfpbieaaDoor
open Go.RowKit
set_option linter.unusedVariables false
/-- the document's tree behind a pointer -/
structure RT (W : World) (base tb : Nat) (v : Value) (L : List Mk) : Prop where
  at_ : W.heap[tb]? = some (.cells #[v] 29 (0, 0))
  own : W.ownsRow base 66 3 v L.length (flatG Mk.cs L)
  ne : tb ∉ ob v
  lo : base ≤ tb
theorem RT.row {W : World} {base tb : Nat} {v : Value} {S : List Mk} (h : RT W base tb v S) : ∃ p cap, v = .slice p S.length cap ∧ RowG Mk.cs 3 W p S ∧ S.length ≤ cap ∧ cap ≤ maxLen := by
  obtain ⟨p, cap, rfl⟩ := owns_slice h.own
  refine ⟨p, cap, rfl, row_own Mk.z h.own rfl, ?_⟩
  rcases h.own.2 with ⟨h1, h2⟩ | ⟨g, cap', cur, h1, _, _, h2, h3, _⟩
  · simp only [Value.slice.injEq] at h1
    obtain ⟨-, h1, rfl⟩ := h1
    exact ⟨by omega, by simp⟩
  · simp only [Value.slice.injEq] at h1
    obtain ⟨-, -, rfl⟩ := h1
    exact ⟨h2, h3⟩
theorem RT.later {W W' : World} {base tb : Nat} {v : Value} {S : List Mk} (h : RT W base tb v S) (hb : Below W.heap.size W W') : RT W' base tb v S :=
  ⟨var_on hb h.at_ (lt_of_at h.at_), owns_on h.own hb, h.ne, h.lo⟩
theorem RT.off {W W' : World} {base tb : Nat} {v : Value} {S : List Mk} {X : List Nat} (h : RT W base tb v S) (ho : Off X W W') (hx : ∀ k, k ∈ tb :: ob v → k ∉ X) : RT W' base tb v S :=
  ⟨at_off h.at_ ho (hx _ List.mem_cons_self), owns_off h.own ho (fun k hk => hx k (List.mem_cons_of_mem _ hk)), h.ne, h.lo⟩
theorem Tr.off {W W' : World} {base tb : Nat} {v : Value} {S : List Sp} {X : List Nat} (h : Tr W base tb v S) (ho : Off X W W') (hx : ∀ k, k ∈ tb :: ob v → k ∉ X) : Tr W' base tb v S :=
  ⟨at_off h.at_ ho (hx _ List.mem_cons_self), owns_off h.own ho (fun k hk => hx k (List.mem_cons_of_mem _ hk)), h.ne, h.lo⟩
theorem RT.stored {w w1 : World} {base tb : Nat} {v v' : Value} {S S' : List Mk} (h : RT w base tb v S) (ho : w1.ownsRow base 66 3 v' S'.length (flatG Mk.cs S')) (hg : w.grownBy w1 v.ownBlock) (hv : ∀ k, v'.ownBlock = some k → v.ownBlock = some k ∨ w.heap.size ≤ k) :
    RT (w1.setCell ⟨tb, 0, none⟩ v') base tb v' S' ∧ Off (tb :: ob v) w (w1.setCell ⟨tb, 0, none⟩ v') := by
  have hlt := lt_of_at h.at_
  have hne : some tb ≠ v.ownBlock := fun e => h.ne (mem_ob.2 e.symm)
  have h1 : w1.heap[tb]? = some (.cells #[v] 29 (0, 0)) := by rw [hg.block tb hlt hne]; exact h.at_
  have hne' : tb ∉ ob v' := fun hm => by
    rcases hv tb (mem_ob.1 hm) with e | e
    · exact hne e.symm
    · omega
  refine ⟨⟨set_at h1 v' rfl, owns_off ho (Off.setCell w1 tb 0 v') (fun k hk hx => ?_), hne', h.lo⟩, ?_⟩
  · rw [List.mem_singleton.1 hx] at hk
    exact hne' hk
  · refine (Off.grown hg (X := tb :: ob v) (fun k hk => List.mem_cons_of_mem _ (mem_ob.2 hk))).trans (Off.setCell w1 tb 0 v') (fun y hy => .inl ?_)
    rw [List.mem_singleton.1 hy]
    exact List.mem_cons_self
/-- what a change of the document's tree leaves -/
def RTurned (w : World) (base tb : Nat) (v : Value) (S' : List Mk) (w' : World) : Prop := ∃ v', RT w' base tb v' S' ∧ Off (tb :: ob v) w w' ∧ (∀ k, k ∈ ob v' → k ∈ ob v ∨ w.heap.size ≤ k)
theorem RTurned.kept {w w' : World} {base tb : Nat} {v : Value} {S : List Mk} (h : RT w base tb v S) (hb : Below w.heap.size w w') : RTurned w base tb v S w' :=
  ⟨v, h.later hb, Off.of_below hb _, fun k hk => .inl hk⟩
theorem RTurned.behind {w w1 w' : World} {base tb : Nat} {v : Value} {S : List Mk} (hb : Below w.heap.size w w1) (h : RTurned w1 base tb v S w') : RTurned w base tb v S w' := by
  obtain ⟨v', h1, h2, h3⟩ := h
  exact ⟨v', h1, (Off.of_below hb _).trans h2 (fun y hy => .inl hy), fun k hk => (h3 k hk).imp (fun h => h) (fun h => Nat.le_trans hb.size h)⟩
def rfI (id : Int) (S : List Mk) : Int := match S.findIdx? (fun s => s.id == id) with | some i => (i : Int) | none => -1
theorem rfI_hit {id : Int} {S : List Mk} {k : Nat} {s : Mk} (hk : S[k]? = some s) (hs : s.id = id) (hl : ∀ j a, j < k → S[j]? = some a → ¬ a.id = id) : rfI id S = k := by
  have hkl : k < S.length := (List.getElem?_eq_some_iff.1 hk).1
  have e : S[k] = s := (List.getElem?_eq_some_iff.1 hk).2
  have : S.findIdx? (fun s => s.id == id) = some k := by
    rw [List.findIdx?_eq_some_iff_getElem]
    refine ⟨hkl, by rw [e]; simpa using hs, fun j hj => ?_⟩
    have := hl j S[j] hj (List.getElem?_eq_getElem (by omega))
    simpa using this
  unfold rfI
  rw [this]
theorem rfI_miss {id : Int} {S : List Mk} (hl : ∀ j a, j < S.length → S[j]? = some a → ¬ a.id = id) : rfI id S = -1 := by
  have : S.findIdx? (fun s => s.id == id) = none := by
    rw [List.findIdx?_eq_none_iff]
    intro a ha
    obtain ⟨j, hj, rfl⟩ := List.getElem_of_mem ha
    simpa using hl j S[j] hj (List.getElem?_eq_getElem hj)
  unfold rfI
  rw [this]
theorem rfI_lt {id : Int} {S : List Mk} (h : 0 ≤ rfI id S) : (rfI id S).toNat < S.length := by
  unfold rfI at h ⊢
  cases hf : S.findIdx? (fun s => s.id == id) with
  | none => rw [hf] at h; simp at h
  | some i =>
    simp only [Int.toNat_natCast]
    exact (List.findIdx?_eq_some_iff_getElem.1 hf).1
set_option maxHeartbeats 1000000 in
theorem ref_find {w : World} {base tb : Nat} {v : Value} {S : List Mk} (h : RT w base tb v S) {id R : Int} (hR : Hid (rfI id S = R)) :
    Calls Tryd.prog 31 #[.pointer (some ⟨tb, 0, none⟩), .int .i64 id] w fun e w' => e = .returned (.int .i64 R) ∧ w' = w := by
  obtain ⟨p, cap, rfl, hr, hc, hm⟩ := h.row
  have hcell := (cells_at h.at_).1
  obtain ⟨n, hn⟩ : ∃ n, Hid (S.length = n) := ⟨_, rfl⟩
  rw [hn.out] at hc hcell
  have hm' : n ≤ 9223372036854775807 := by unfold maxLen at hm; omega
  clear h
  go_enter Tryd.func31, Tryd.ntmps31
  go_wp2_with fail
  go_loopw [5] (fun i wr => ∃ k : Nat, k ≤ n ∧ i = .int .i64 k ∧ (∀ j a, j < k → S[j]? = some a → ¬ a.id = id) ∧ wr = w) (fun i _ => n - (intOf i).toNat)
  case atStart => exact ⟨0, by omega, rfl, fun j t hj => by omega, rfl⟩
  case round =>
    obtain ⟨k, hk, rfl, hok, hw⟩ := hrel
    rw [hw]
    have HO := hid hok
    clear hok hw
    by_cases hlt : k < n
    · have hlt' : (k : Int) < (n : Int) := by omega
      obtain ⟨t, ht⟩ := get_some S k (by rw [hn.out]; exact hlt)
      obtain ⟨b, off, rfl, hc1, hc2, hc3⟩ := mark_at hr ht
      have HT := hid ht
      clear ht
      by_cases q : t.id = id
      · have q' : (t.id == id) = true := by simpa using q
        go_wp2_with fail
        go_ret; exact ⟨congrArg (fun x => Ending.returned (.int .i64 x)) ((rfI_hit HT.out q HO.out).symm.trans hR.out), rfl⟩
      · have q' : (t.id == id) = false := by simpa using q
        have Q := hid q
        clear q
        go_wp2_with fail
        go_roundw
        case rel =>
          refine ⟨k + 1, by omega, by go_num, fun j u hj hu => ?_, by first | rfl | trivial⟩
          by_cases e : j = k
          · subst e
            have := Option.some.inj (HT.out.symm.trans hu)
            subst this
            exact Q.out
          · exact HO.out j u (by omega) hu
        case measure => simp [intOf]; omega
    · obtain rfl : k = n := by omega
      have hlt' : ¬ (k : Int) < (k : Int) := by omega
      go_wp2_with fail
      go_ret
      exact ⟨congrArg (fun x => Ending.returned (.int .i64 x)) ((rfI_miss (fun j t hj => HO.out j t (by rw [← hn.out]; exact hj))).symm.trans hR.out), rfl⟩
def ratX (id : Int) (S : List Mk) : Int := if rfI id S < 0 then 0 else (S[(rfI id S).toNat]?.map Mk.x).getD 0
def ratY (id : Int) (S : List Mk) : Int := if rfI id S < 0 then 0 else (S[(rfI id S).toNat]?.map Mk.y).getD 0
def ratB (id : Int) (S : List Mk) : Bool := decide (0 ≤ rfI id S)
set_option maxHeartbeats 1000000 in
theorem ref_At {w : World} {base tb : Nat} {v : Value} {S : List Mk} (h : RT w base tb v S) (id : Int) :
    Calls Tryd.prog 17 #[.pointer (some ⟨tb, 0, none⟩), .int .i64 id] w fun e w' => e = .returned (.tuple #[pt (ratX id S) (ratY id S), .bool (ratB id S)]) ∧ Below w.heap.size w w' := by
  obtain ⟨W0, hW0⟩ : ∃ W0, W0 = w.alloc (.cells #[.int .i64 0, .int .i64 0] 31) := ⟨_, rfl⟩
  have hB0 : Below w.heap.size w W0 := by rw [hW0]; exact below1 _ _
  have hP := hid (show W0.heap[w.heap.size]? = some (.cells #[.int .i64 0, .int .i64 0] 31 (0, 0)) by rw [hW0]; exact new_at _ _ _ rfl)
  have hlt0 : w.heap.size < W0.heap.size := lt_of_at hP.out
  have HT := hid (h.later hB0)
  clear h
  obtain ⟨r, hr⟩ : ∃ r, Hid (rfI id S = r) := ⟨_, rfl⟩
  have C := ref_find HT.out hr
  by_cases h1 : r < 0
  · have e1 : ratX id S = 0 := by simp [ratX, hr.out, h1]
    have e2 : ratY id S = 0 := by simp [ratY, hr.out, h1]
    have e3 : ratB id S = false := by simp [ratB, hr.out]; omega
    rw [e1, e2, e3]
    clear e1 e2 e3
    go_enter Tryd.func17, Tryd.ntmps17
    go_wp2_with fail
    rw [← hW0]
    clear hW0
    refine C.mono ?_
    rintro z W1 ⟨rfl, hw1⟩
    rw [hw1]
    clear hw1
    have hp := cells_at hP.out
    go_wp2
    exact bodyPost_ret (v := .tuple #[pt 0 0, .bool false]) (by simp [results, Tryd.results17, go_sem, hp]) rfl ⟨rfl, (hB0.setCell (Nat.le_refl _) _).setCell (Nat.le_refl _) _⟩
  · have hlt := rfI_lt (id := id) (S := S) (by rw [hr.out]; omega)
    rw [hr.out] at hlt
    obtain ⟨k, rfl⟩ : ∃ k : Nat, r = k := ⟨r.toNat, by omega⟩
    simp only [Int.toNat_natCast] at hlt
    obtain ⟨s, hs⟩ := get_some S k hlt
    have HS := hid hs
    have e1 : ratX id S = s.x := by simp [ratX, hr.out, h1, hs]
    have e2 : ratY id S = s.y := by simp [ratY, hr.out, h1, hs]
    have e3 : ratB id S = true := by simp [ratB, hr.out]
    rw [e1, e2, e3]
    clear e1 e2 e3 hs
    obtain ⟨p, cap, rfl, hrow, hcap, hmax⟩ := HT.out.row
    have hmax' : cap ≤ 9223372036854775807 := hmax
    obtain ⟨n, hn⟩ : ∃ n, Hid (S.length = n) := ⟨_, rfl⟩
    have hkn : (k : Int) < (n : Int) := by rw [← hn.out]; omega
    have hk0 : (0 : Int) ≤ (k : Int) := by omega
    rw [hn.out] at HT hcap hlt
    go_enter Tryd.func17, Tryd.ntmps17
    go_wp2_with fail
    rw [← hW0]
    clear hW0
    refine C.mono ?_
    rintro z W1 ⟨rfl, hw1⟩
    rw [hw1]
    clear hw1 C
    obtain ⟨b, off, rfl, hcs1, hcs2, hcs3⟩ := mark_at hrow HS.out
    have hT := cells_at HT.out.at_
    have hp := cells_at hP.out
    go_wp2
    exact bodyPost_ret (v := .tuple #[pt s.x s.y, .bool true]) (by simp [results, Tryd.results17, go_sem, hp]) rfl ⟨rfl, (hB0.setCell (Nat.le_refl _) _).setCell (Nat.le_refl _) _⟩
end Go.Proofs.YtihmpdjlfpbieaaDoor
