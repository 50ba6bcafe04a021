/- Contracts of the reference's At, With, Without, Seen over rows of things: each returns what the plain functions say, in new memory; nothing that was there is changed. -/
import Derived.Test.YtfoncphdbaaedaaGreatDoorTC
namespace Go.Proofs.YtfoncphdbaaedaaGreatDoor
open Go.RowKit Go.Maps
set_option linter.unusedVariables false
/-- the block that a row's pointer names -/
def rowB (p : Option Addr) : List Nat := match p with | some a => [a.block] | none => []
theorem rowB_own {w : World} {base : Nat} {e : TypeId} {z : Nat} {p : Option Addr} {n cap : Nat} {xs : List Value} (h : w.ownsRow base e z (.slice p n cap) n xs) : ∀ k, k ∈ rowB p → base ≤ k ∧ k < w.heap.size := by
  intro k hk
  cases p with
  | none => cases hk
  | some a =>
    have : k = a.block := by simpa [rowB] using hk
    subst this
    exact h.lt a.block rfl
def atI (id : Int) (L : List Th) : Int := match L.findIdx? (fun t => t.id == id) with | some i => (i : Int) | none => -1
theorem atI_hit {id : Int} {L : List Th} {k : Nat} {s : Th} (hk : L[k]? = some s) (hs : s.id = id) (hl : ∀ j a, j < k → L[j]? = some a → ¬ a.id = id) : atI id L = k := by
  have hkl : k < L.length := (List.getElem?_eq_some_iff.1 hk).1
  have e : L[k] = s := (List.getElem?_eq_some_iff.1 hk).2
  have : L.findIdx? (fun s => s.id == id) = some k := by
    rw [List.findIdx?_eq_some_iff_getElem]
    refine ⟨hkl, by rw [e]; simpa using hs, fun j hj => ?_⟩
    have := hl j L[j] hj (List.getElem?_eq_getElem (by omega))
    simpa using this
  unfold atI
  rw [this]
theorem atI_miss {id : Int} {L : List Th} (hl : ∀ j a, j < L.length → L[j]? = some a → ¬ a.id = id) : atI id L = -1 := by
  have : L.findIdx? (fun s => s.id == id) = none := by
    rw [List.findIdx?_eq_none_iff]
    intro a ha
    obtain ⟨j, hj, rfl⟩ := List.getElem_of_mem ha
    simpa using hl j L[j] hj (List.getElem?_eq_getElem hj)
  unfold atI
  rw [this]
/-- where it is, if it is there -/
theorem atI_has {id : Int} {L : List Th} (h : hasT id L = true) : ∃ (k : Nat) (t : Th), atI id L = k ∧ L[k]? = some t ∧ findT id L = some t := by
  unfold atI
  cases hf : L.findIdx? (fun s => s.id == id) with
  | none =>
    rw [List.findIdx?_eq_none_iff] at hf
    obtain ⟨a, ha, e⟩ := has_iff.1 h
    have := hf a ha
    simp [e] at this
  | some i =>
    obtain ⟨hi, h1, h2⟩ := List.findIdx?_eq_some_iff_getElem.1 hf
    refine ⟨i, L[i], rfl, List.getElem?_eq_getElem hi, ?_⟩
    unfold findT
    rw [List.find?_eq_some_iff_getElem]
    exact ⟨h1, i, hi, rfl, fun j hj => by simpa using h2 j hj⟩
theorem atI_not {id : Int} {L : List Th} (h : hasT id L = false) : atI id L = -1 :=
  atI_miss fun j a _ hj => has_no h a (List.mem_of_getElem? hj)
set_option maxHeartbeats 1000000 in
theorem ref_at6 {w : World} {p : Option Addr} {cap : Nat} {L : List Th} (hr : RowT w p L) {n : Nat} (hn : Hid (L.length = n)) (hl : n ≤ 999) {id a : Int} (ha : Hid (atI id L = a)) :
    Calls Tryz.prog 23 #[.slice p n cap, .int .i64 id] w fun e w' => e = .returned (.int .i64 a) ∧ w' = w := by
  have HR := hid hr
  clear hr
  go_enter Tryz.func23, Tryz.ntmps23
  go_wp2_with fail
  go_loopw [5] (fun s5 wr => ∃ k : Nat, k ≤ n ∧ s5 = .int .i64 (k : Nat) ∧ (∀ j t, j < k → L[j]? = some t → ¬ t.id = id) ∧ wr = w) (fun s5 _ => n - (intOf s5).toNat)
  case atStart => exact ⟨0, by omega, rfl, fun j t hj => by omega, rfl⟩
  case round =>
    obtain ⟨k, hk, rfl, hno, rfl⟩ := hrel
    have HN := hid hno
    clear hno
    by_cases hlt : k < n
    · have hlt' : (k : Int) < (n : Int) := by omega
      obtain ⟨t, ht⟩ := get_th L k (by rw [hn.out]; exact hlt)
      obtain ⟨b, off, rfl, hc⟩ := HR.out.at ht
      have HT := hid ht
      clear ht
      by_cases he : t.id = id
      · have he' : (t.id == id) = true := by simpa using he
        have e := hid ((atI_hit HT.out he HN.out).symm.trans ha.out)
        clear he
        go_wp2_with fail
        go_ret
        exact ⟨congrArg (fun x => Ending.returned (.int .i64 x)) e.out, rfl⟩
      · have he' : (t.id == id) = false := by simpa using he
        have HE := hid he
        clear he
        go_wp2_with fail
        go_roundw
        case rel =>
          refine ⟨k + 1, by omega, by go_num, fun j u hj hu => ?_, trivial⟩
          by_cases e : j = k
          · subst e
            have := Option.some.inj (HT.out.symm.trans hu)
            subst this
            exact HE.out
          · exact HN.out j u (by omega) hu
        case measure => simp [intOf]; omega
    · obtain rfl : k = n := by omega
      have hlt' : ¬ (k : Int) < (k : Int) := by omega
      have e := hid ((atI_miss (L := L) (id := id) (fun j a hj => HN.out j a (by rw [← hn.out]; exact hj))).symm.trans ha.out)
      go_wp2_with fail
      go_ret
      exact ⟨congrArg (fun x => Ending.returned (.int .i64 x)) e.out, rfl⟩
theorem out_take {id : Int} {L : List Th} {k : Nat} {t : Th} (h : L[k]? = some t) : outT id (L.take (k + 1)) = if t.id = id then outT id (L.take k) else outT id (L.take k) ++ [t] := by
  unfold outT
  rw [List.take_add_one, h, Option.toList_some, List.filter_append]
  by_cases e : t.id = id
  · rw [if_pos e]; simp [e]
  · rw [if_neg e]; simp [e]
theorem in_take {r : Rc} {L : List Th} {k : Nat} {t : Th} (h : L[k]? = some t) : inT_r r (L.take (k + 1)) = if inB r t.x t.y = true then inT_r r (L.take k) ++ [t] else inT_r r (L.take k) := by
  unfold inT_r
  rw [List.take_add_one, h, Option.toList_some, List.filter_append]
  by_cases e : inB r t.x t.y = true
  · rw [if_pos e]; simp [e]
  · rw [if_neg e]; simp [e]
set_option maxHeartbeats 1000000 in
theorem ref_without {w : World} {p : Option Addr} {cap : Nat} {L : List Th} (hr : RowT w p L) {n : Nat} (hn : Hid (L.length = n)) (hl : n ≤ 999) {id : Int} {M : List Th} (hM : Hid (outT id L = M)) {m : Nat} (hm : Hid (M.length = m)) :
    Calls Tryz.prog 38 #[.slice p n cap, .int .i64 id] w fun e w' => ∃ p' cap', e = .returned (.slice p' m cap') ∧ RowT w' p' M ∧ (∀ k, k ∈ rowB p' → w.heap.size ≤ k ∧ k < w'.heap.size) ∧ Below w.heap.size w w' := by
  obtain ⟨i0, hi, hz0, hz1, hz2⟩ := info_parts Tryz.infoT
  have HR := hid hr
  clear hr
  go_enter Tryz.func38, Tryz.ntmps38
  go_wp2_with fail
  go_loopw [6, 5] (fun s6 s5 wr => ∃ (k : Nat) (A : List Th), k ≤ n ∧ s6 = .int .i64 (k : Nat) ∧ Hid (outT id (L.take k) = A) ∧ A.length ≤ k ∧ wr.ownsRow w.heap.size 54 11 s5 A.length (flatT A) ∧ Below w.heap.size w wr) (fun s6 _ _ => n - (intOf s6).toNat)
  case atStart => exact ⟨0, [], by omega, rfl, (show Hid _ from rfl), by simp, World.ownsRow_nil _ _ _ _, Below.refl _ _⟩
  case round =>
    obtain ⟨k, A, hk, rfl, hA, hAl, ho, hb⟩ := hrel
    obtain ⟨p5, c5, rfl⟩ := owns_slice ho
    by_cases hlt : k < n
    · have hlt' : (k : Int) < (n : Int) := by omega
      obtain ⟨t, ht⟩ := get_th L k (by rw [hn.out]; exact hlt)
      obtain ⟨b, off, rfl, hc⟩ := (HR.out.later hb).at ht
      have HT := hid ht
      clear ht
      have hs := hb.size
      by_cases he : t.id = id
      · have he' : (t.id != id) = false := by simpa using he
        have e := hid (show outT id (L.take (k + 1)) = A by rw [out_take HT.out, if_pos he, hA.out])
        clear he
        go_wp2_with fail
        go_roundw
        case rel => exact ⟨k + 1, A, by omega, by go_num, e, by omega, ho, hb⟩
        case measure => simp [intOf]; omega
      · have he' : (t.id != id) = true := by simpa using he
        have e := hid (show outT id (L.take (k + 1)) = A ++ [t] by rw [out_take HT.out, if_neg he, hA.out])
        clear he
        go_wp2_with (at_builtin; refine wpList_append_lies _ rfl _ _ 29 rfl w.heap.size 54 i0 zT.v 11 120 Tryz.underlying29 hi hz0 hz1 hz2 rfl (by decide) _ _ _ rfl (ho.alloc _) ⟨wr.heap.size, 0, none⟩ 1 1 t.cs rfl rfl (World.news_of_block (heap_alloc_new _ _)) (cs_one t) (by decide) (by unfold maxLen; omega) (by omega) (by simp; omega) (wr.heap.size + 1) (by simp) ?_; intro g cap' w5 hown hgrow hat hg5)
        go_roundw
        case rel =>
          refine ⟨k + 1, A ++ [t], by omega, by go_num, e, by simp; omega, ?_, ?_⟩
          · rw [flatT_append, flatT_one, List.length_append]; exact hown
          · exact (hb.alloc hs _).grown hgrow (by simp; omega) (fun k hk => (ho.lt k hk).1)
        case measure => simp [intOf]; omega
    · obtain rfl : k = n := by omega
      have hlt' : ¬ (k : Int) < (k : Int) := by omega
      have e : A = M := by rw [← hA.out, List.take_of_length_le (by rw [hn.out]; omega), hM.out]
      subst e
      rw [hm.out] at ho
      go_wp2_with fail
      go_ret
      exact ⟨p5, ⟨c5, by rw [← hm.out]; rfl⟩, rowT_own ho hm.out.symm, rowB_own ho, hb⟩
set_option maxHeartbeats 1000000 in
theorem ref_seen {w : World} {p : Option Addr} {cap : Nat} {L : List Th} (hr : RowT w p L) {n : Nat} (hn : Hid (L.length = n)) (hl : n ≤ 999) (r0 r1 r2 r3 : Int) {M : List Th} (hM : Hid (inT_r ⟨r0, r1, r2, r3⟩ L = M)) {m : Nat} (hm : Hid (M.length = m)) :
    Calls Tryz.prog 16 #[.slice p n cap, rc r0 r1 r2 r3] w fun e w' => ∃ p' cap', e = .returned (.slice p' m cap') ∧ RowT w' p' M ∧ Below w.heap.size w w' := by
  obtain ⟨i0, hi, hz0, hz1, hz2⟩ := info_parts Tryz.infoT
  have HR := hid hr
  have K0 : Hid ((w.alloc (.cells #[.int .i64 r0, .int .i64 r1, .int .i64 r2, .int .i64 r3] 25)).heap[w.heap.size]? = some (.cells #[.int .i64 r0, .int .i64 r1, .int .i64 r2, .int .i64 r3] 25 (0, 0))) := new_at _ _ _ rfl
  have hB0 := below1 w (.cells #[.int .i64 r0, .int .i64 r1, .int .i64 r2, .int .i64 r3] 25)
  clear hr
  go_enter Tryz.func16, Tryz.ntmps16
  go_wp2_with fail
  go_loopw [6, 5] (fun s6 s5 wr => ∃ (k : Nat) (A : List Th), k ≤ n ∧ s6 = .int .i64 (k : Nat) ∧ Hid (inT_r ⟨r0, r1, r2, r3⟩ (L.take k) = A) ∧ A.length ≤ k ∧ wr.ownsRow (w.heap.size + 1) 54 11 s5 A.length (flatT A) ∧ Hid (wr.heap[w.heap.size]? = some (.cells #[.int .i64 r0, .int .i64 r1, .int .i64 r2, .int .i64 r3] 25 (0, 0))) ∧ Below w.heap.size w wr) (fun s6 _ _ => n - (intOf s6).toNat)
  case atStart => exact ⟨0, [], by omega, rfl, (show Hid _ from rfl), by simp, World.ownsRow_nil _ _ _ _, K0, hB0⟩
  case round =>
    obtain ⟨k, A, hk, rfl, hA, hAl, ho, K, hb⟩ := hrel
    obtain ⟨p5, c5, rfl⟩ := owns_slice ho
    clear K0 hB0
    by_cases hlt : k < n
    · have hlt' : (k : Int) < (n : Int) := by omega
      obtain ⟨t, ht⟩ := get_th L k (by rw [hn.out]; exact hlt)
      obtain ⟨b, off, rfl, hc⟩ := (HR.out.later hb).at ht
      have HC := hid hc
      have HT := hid ht
      clear ht
      have hs := hb.size
      obtain ⟨q, hq⟩ : ∃ q, Hid (inB ⟨r0, r1, r2, r3⟩ t.x t.y = q) := ⟨_, rfl⟩
      obtain ⟨cR, -⟩ := cells_at K.out
      obtain ⟨-, hcx, hcy, -⟩ := hc
      have q0 : wr.cell? ⟨w.heap.size, 0, none⟩ = some (.int .i64 r0) := cR 0
      have q1 : wr.cell? ⟨w.heap.size, 1, none⟩ = some (.int .i64 r1) := cR 1
      have q2 : wr.cell? ⟨w.heap.size, 2, none⟩ = some (.int .i64 r2) := cR 2
      have q3 : wr.cell? ⟨w.heap.size, 3, none⟩ = some (.int .i64 r3) := cR 3
      clear cR
      go_wp2_with fail
      go_region_held3 (fun w' => w'.cell? ⟨w.heap.size, 0, none⟩ = some (.int .i64 r0) ∧ w'.cell? ⟨w.heap.size, 1, none⟩ = some (.int .i64 r1) ∧ w'.cell? ⟨w.heap.size, 2, none⟩ = some (.int .i64 r2) ∧ w'.cell? ⟨w.heap.size, 3, none⟩ = some (.int .i64 r3) ∧ w'.cell? ⟨b, off + k * 11 + 1, none⟩ = some (.int .i64 t.x) ∧ w'.cell? ⟨b, off + k * 11 + 2, none⟩ = some (.int .i64 t.y))
        (first | go_keep | (go_split_ands; refine ⟨?_, ?_, ?_, ?_, ?_, ?_⟩ <;> exact cell_below hbK (by assumption)))
        (first
          | (go_at_call 27; with_reducible refine (rin_at hq _).mono ?_; rintro z W2 ⟨rfl, hbK⟩
             have hb1 : Below wr.heap.size wr W2 := (by first | exact hbK | exact (Below.refl wr.heap.size wr).drew.trans hbK)))
      all_goals
        have hB := below_on hb hb1
        have HC2 := hid (cellsT_later HC.out hb1)
        have ho2 := owns_on ho hb1
        have K2 := hid (var_on hb1 K.out (lt_of_at K.out))
        have hl2 : w.heap.size + 1 ≤ W2.heap.size := lt_of_at K2.out
        clear ho hb hb1 K HC q0 q1 q2 q3 hcx hcy
        cases q
        · have e := hid (show inT_r ⟨r0, r1, r2, r3⟩ (L.take (k + 1)) = A by rw [in_take HT.out, hq.out, hA.out]; rfl)
          go_wp2_with fail
          go_roundw
          case rel => exact ⟨k + 1, A, by omega, by go_num, e, by omega, ho2, K2, hB⟩
          case measure => simp [intOf]; omega
        · have e := hid (show inT_r ⟨r0, r1, r2, r3⟩ (L.take (k + 1)) = A ++ [t] by rw [in_take HT.out, hq.out, hA.out]; rfl)
          have hc := HC2.out
          go_wp2_with (at_builtin; refine wpList_append_lies _ rfl _ _ 29 rfl (w.heap.size + 1) 54 i0 zT.v 11 120 Tryz.underlying29 hi hz0 hz1 hz2 rfl (by decide) _ _ _ rfl (ho2.alloc _) ⟨W2.heap.size, 0, none⟩ 1 1 t.cs rfl rfl (World.news_of_block (heap_alloc_new _ _)) (cs_one t) (by decide) (by unfold maxLen; omega) (by omega) (by simp; omega) (W2.heap.size + 1) (by simp) ?_; intro g cap' w5 hown hgrow hat hg5)
          go_roundw
          case rel =>
            refine ⟨k + 1, A ++ [t], by omega, by go_num, e, by simp; omega, ?_, ?_, ?_⟩
            · rw [flatT_append, flatT_one, List.length_append]; exact hown
            · have hk2 := old_at K2.out (.cells t.cs.toArray 54)
              refine (hgrow.block w.heap.size (by simp; omega) (fun e => ?_)).trans hk2
              have := (ho2.lt w.heap.size e.symm).1
              omega
            · exact (hB.alloc (by omega) _).grown hgrow (by simp; omega) (fun k hk => by have := (ho2.lt k hk).1; omega)
          case measure => simp [intOf]; omega
    · obtain rfl : k = n := by omega
      have hlt' : ¬ (k : Int) < (k : Int) := by omega
      have e : A = M := by rw [← hA.out, List.take_of_length_le (by rw [hn.out]; omega), hM.out]
      subst e
      rw [hm.out] at ho
      go_wp2_with fail
      go_ret
      exact ⟨p5, ⟨c5, by rw [← hm.out]; rfl⟩, rowT_own ho hm.out.symm, hb⟩
end Go.Proofs.YtfoncphdbaaedaaGreatDoor
