/- Contract of stand of the package note. -/
import Derived.Test.YtpedngbjpbeanaaGreatDoorNtH
namespace Go.Proofs.YtpedngbjpbeanaaGreatDoor
open Go.RowKit
set_option linter.unusedVariables false
theorem standR_congr {f g : Nat → Bool} (h : ∀ c, c < 16 → f c = g c) (all : Bool) : ∀ (L : List Th) (last : Int), standR f all last L = standR g all last L
  | [], _ => rfl
  | t :: l, last => by
    rw [standR, standR, standR_congr h all l t.id]
    unfold standG
    rw [h _ (ofN_lt _ _)]
theorem standB_congr {f g : Nat → Bool} (h : ∀ c, c < 16 → f c = g c) (all : Bool) (L : List Th) : standB f all L = standB g all L := by
  unfold standB
  rw [standR_congr h]
theorem stand_next {f : Nat → Bool} {all : Bool} {last : Int} {L : List Th} {j : Nat} {t : Th} {R : Bool} (hr : standR f all last (L.drop j) = R) (hj : L[j]? = some t) : R = (standG f all last t && standR f all t.id (L.drop (j + 1))) := by
  have hlt : j < L.length := (List.getElem?_eq_some_iff.1 hj).1
  have e : L[j] = t := (List.getElem?_eq_some_iff.1 hj).2
  rw [List.drop_eq_getElem_cons hlt, e, standR] at hr
  exact hr.symm
theorem standG_ways (f : Nat → Bool) (all : Bool) (last : Int) (t : Th) : (standG f all last t = true ∧ (f (ofN t.x t.y) == all) = true ∧ isT t = true ∧ last < t.id) ∨ (standG f all last t = false ∧ ((f (ofN t.x t.y) == all) = false ∨ ((f (ofN t.x t.y) == all) = true ∧ isT t = false) ∨ ((f (ofN t.x t.y) == all) = true ∧ isT t = true ∧ t.id ≤ last))) := by
  unfold standG
  cases f (ofN t.x t.y) <;> cases all <;> cases isT t <;> by_cases a : last < t.id <;> simp [a] <;> omega
theorem cellsOf_at {x y : Int} {c : Nat} {e : Int} (h : Hid (ofN x y = c)) (h' : Hid (ofE x y = e)) (w : World) (hM : Masks w) : Calls Tryz.prog 60 #[pt x y] w fun r w' => r = .returned (.tuple #[.int .i64 c, .int .i64 e]) ∧ Below w.heap.size w w' := by
  rw [← h.out, ← h'.out]; exact cells_of w hM x y
set_option maxRecDepth 100000 in
set_option maxHeartbeats 4000000 in
theorem note_stand {w : World} (hM : Masks w) {p : Option Addr} {cap : Nat} {L : List Th} {B : List Bool} {all R : Bool} (hr : RowT w p L) (hi : ∀ t ∈ L, inT t) (hB16 : B.length = 16) (hR : Hid (standB (fun c => B.getD c false) all L = R)) (hm : L.length ≤ maxLen) :
    Calls Tryz.prog 29 #[.slice p L.length cap, .agg (bA B), .bool all] w fun e w' => e = .returned (.bool R) ∧ Below w.heap.size w w' := by
  obtain ⟨f, hf⟩ : ∃ f : Nat → Bool, Hid ((fun c => B.getD c false) = f) := ⟨_, rfl⟩
  rw [hf.out] at hR
  have HR := hid hr
  have HI := hid hi
  have HM := hid hM
  have hm' : L.length ≤ 9223372036854775807 := by unfold maxLen at hm; omega
  clear hr hi hM
  have hsz := bA_size hB16
  have hone := bA_one B
  by_cases hlen : L.length ≤ 200
  · have hR' : Hid (standR f all (-1) L = R) := by
      have := hR.out
      unfold standB at this
      rw [show decide (L.length ≤ 200) = true by simpa using hlen, Bool.true_and] at this
      exact this
    have d0 : decide ((200 : Int) < (L.length : Int)) = false := by simp; omega
    clear hR hlen
    obtain ⟨W, hW⟩ : ∃ W, W = w.alloc (bO B) := ⟨_, rfl⟩
    have hBW : Below w.heap.size w W := by rw [hW]; exact below1 _ _
    have hA := hid (show W.heap[w.heap.size]? = some (bO B) by rw [hW]; exact new_at _ _ _ rfl)
    go_enter Tryz.func29, Tryz.ntmps29
    go_upto_region 1 with fail
    rw [← hW]
    clear hW hsz hone
    go_wp2_with fail
    go_loopw [7, 17] (fun la i wr => ∃ (j : Nat) (last : Int), j ≤ L.length ∧ i = .int .i64 j ∧ la = .int .i64 last ∧ standR f all last (L.drop j) = R ∧ wr.heap[w.heap.size]? = some (bO B) ∧ Below w.heap.size w wr) (fun _ i _ => L.length - (intOf i).toNat)
    case atStart => exact ⟨0, -1, by omega, rfl, rfl, by rw [List.drop_zero]; exact hR'.out, hA.out, hBW⟩
    case round =>
      obtain ⟨j, last, hj, rfl, rfl, hh, a0, hb⟩ := hrel
      have HH := hid hh
      have A0 := hid a0
      clear hh a0 hA hBW
      have hwr := hb.size
      have g0 := at_lt A0.out
      by_cases hlt : j < L.length
      · have hlt' : (j : Int) < (L.length : Int) := by omega
        obtain ⟨t, ht⟩ := get_th L j hlt
        obtain ⟨b, off, rfl, hc⟩ := (HR.out.later hb).at ht
        have HT := hid ht
        have hit := HI.out t (List.mem_of_getElem? ht)
        have hn := hid (stand_next HH.out ht)
        clear ht
        obtain ⟨V, hV⟩ : ∃ V, V = wr.alloc t.o := ⟨_, rfl⟩
        have hBv : Below w.heap.size w V := by rw [hV]; exact hb.alloc hwr _
        have A0v := hid (show V.heap[w.heap.size]? = some (bO B) by rw [hV]; exact old_at A0.out _)
        have Tv := hid (show V.heap[wr.heap.size]? = some t.o by rw [hV]; exact new_at _ _ _ rfl)
        go_upto_region 7 with fail
        rw [← hV]
        clear hV A0 hb hc
        have cT := cells_at Tv.out
        have lV := at_lt Tv.out
        obtain ⟨c, hc⟩ : ∃ c, Hid (ofN t.x t.y = c) := ⟨_, rfl⟩
        obtain ⟨e, he⟩ : ∃ e, Hid (ofE t.x t.y = e) := ⟨_, rfl⟩
        have h16 : c < 16 := by rw [← hc.out]; exact ofN_lt _ _
        go_wp2_with fail
        refine (cellsOf_at hc he _ (HM.out.below hBv)).mono ?_
        rintro x w2 ⟨rfl, hb2⟩
        have A0u := hid (var_on hb2 A0v.out (at_lt A0v.out))
        have Tu := hid (var_on hb2 Tv.out (at_lt Tv.out))
        have hBu := below_on hBv hb2
        clear hb2 A0v Tv hBv cT lV
        have cT := cells_at Tu.out
        have lU := at_lt Tu.out
        have aU := at_lt A0u.out
        have hcell : w2.cell? ⟨w.heap.size, c, none⟩ = some (.bool (f c)) := by
          rw [(cells_at A0u.out).1, ← hf.out]
          refine bA_at ?_
          show B[c]? = some (B.getD c false)
          rw [List.getD_eq_getElem?_getD, List.getElem?_eq_getElem (by rw [hB16]; exact h16)]
          rfl
        have e1 : decide ((0 : Int) ≤ (c : Int)) = true := by simp
        have e2 : decide ((c : Int) < 16) = true := by simp; omega
        have hW := standG_ways f all last t
        rw [hc.out] at hW
        generalize f c = fc at hcell hW
        rcases hW with ⟨q, q1, q2, q3⟩ | ⟨q, q1 | ⟨q1, q2⟩ | ⟨q1, q2, q3⟩⟩
        · have QT := hid q2
          have hHn := hn.out
          rw [q, Bool.true_and] at hHn
          have HHn := hid hHn
          have d1 : decide (t.id ≤ last) = false := by simp; exact q3
          clear q q2 q3 hn hHn
          go_wp2_with fail
          refine (isT_at QT _ hit).mono ?_
          rintro x w4 ⟨rfl, hb4⟩
          have hBx := below_on hBu hb4
          have A0x := hid (var_on hb4 A0u.out aU)
          have Tx := hid (var_on hb4 Tu.out lU)
          clear hb4 A0u Tu hBu cT hcell
          have cT := cells_at Tx.out
          go_wp2_with fail
          go_roundw
          case rel => exact ⟨j + 1, t.id, by omega, by go_num, rfl, HHn.out.symm, A0x.out, hBx⟩
          case measure => simp [intOf]; omega
        · have hR0 := hn.out
          rw [q, Bool.false_and] at hR0
          subst hR0
          clear q hn
          go_wp2_with fail
          go_ret
          exact ⟨rfl, hBu⟩
        · have QT := hid q2
          have hR0 := hn.out
          rw [q, Bool.false_and] at hR0
          subst hR0
          clear q q2 hn
          go_wp2_with fail
          refine (isT_at QT _ hit).mono ?_
          rintro x w4 ⟨rfl, hb4⟩
          have hBx := below_on hBu hb4
          go_wp2_with fail
          go_ret
          exact ⟨rfl, hBx⟩
        · have QT := hid q2
          have d1 : decide (t.id ≤ last) = true := by simpa using q3
          have hR0 := hn.out
          rw [q, Bool.false_and] at hR0
          subst hR0
          clear q q2 q3 hn
          go_wp2_with fail
          refine (isT_at QT _ hit).mono ?_
          rintro x w4 ⟨rfl, hb4⟩
          have hBx := below_on hBu hb4
          have Tx := hid (var_on hb4 Tu.out lU)
          clear hb4 A0u Tu hBu cT hcell
          have cT := cells_at Tx.out
          go_wp2_with fail
          go_ret
          exact ⟨rfl, hBx⟩
      · obtain rfl : j = L.length := by omega
        have hlt' : ¬ (L.length : Int) < (L.length : Int) := by omega
        have hR1 := HH.out
        rw [List.drop_of_length_le (Nat.le_refl _), standR] at hR1
        subst hR1
        go_wp2_with fail
        go_ret
        exact ⟨rfl, hb⟩
  · have hR1 := hR.out
    unfold standB at hR1
    rw [show decide (L.length ≤ 200) = false by simpa using hlen, Bool.false_and] at hR1
    subst hR1
    have d0 : decide ((200 : Int) < (L.length : Int)) = true := by simp; omega
    clear hlen hR
    go_enter Tryz.func29, Tryz.ntmps29
    go_wp2_with fail
    go_ret
    exact ⟨rfl, below1 _ _⟩
end Go.Proofs.YtpedngbjpbeanaaGreatDoor
