/- Contract of Load of the package owner. -/
import Derived.Test.YtnlhlmihhgihbaaOwC
namespace Go.Proofs.Ytnlhlmihhgihbaa
open Go.RowKit
set_option linter.unusedVariables false
/-- the first k are loaded -/
def loadK (L : List Ow) (k : Nat) : List Ow := L.take k ++ zeroL.drop k
theorem loadK_0 (L : List Ow) : loadK L 0 = zeroL := by simp [loadK]
theorem loadK_16 {L : List Ow} (h : L.length = 16) : loadK L 16 = L := by simp [loadK, zeroL, List.take_of_length_le, h]
theorem loadK_len {L : List Ow} (h : L.length = 16) {k : Nat} (hk : k ≤ 16) : (loadK L k).length = 16 := by simp [loadK, zeroL, h]; omega
theorem loadK_get {L : List Ow} (h : L.length = 16) {k : Nat} (hk : k ≤ 16) (i : Nat) : (loadK L k)[i]? = if i < k then L[i]? else zeroL[i]? := by
  unfold loadK
  have hl : (L.take k).length = k := by simp [h]; omega
  by_cases hi : i < k
  · rw [List.getElem?_append_left (by rw [hl]; exact hi), if_pos hi, List.getElem?_take, if_pos hi]
  · rw [List.getElem?_append_right (by rw [hl]; omega), if_neg hi, hl, List.getElem?_drop, show k + (i - k) = i by omega]
theorem loadK_at {L : List Ow} (h : L.length = 16) {k : Nat} (hk : k < 16) : (loadK L k)[k]? = some ⟨0, 0⟩ := by
  rw [loadK_get h (by omega), if_neg (by omega)]
  unfold zeroL
  rw [List.getElem?_replicate, if_pos hk]
theorem loadK_set {L : List Ow} (h : L.length = 16) {k : Nat} (hk : k < 16) {o : Ow} (ho : L[k]? = some o) : (loadK L k).set k o = loadK L (k + 1) := by
  apply List.ext_getElem?
  intro i
  rw [loadK_get h (by omega)]
  by_cases e : k = i
  · subst e
    rw [List.getElem?_set_self (by rw [loadK_len h (by omega)]; exact hk), if_pos (by omega), ho]
  · rw [List.getElem?_set_ne e, loadK_get h (by omega)]
    by_cases h2 : i < k
    · rw [if_pos h2, if_pos (by omega)]
    · rw [if_neg h2, if_neg (by omega)]
theorem all_take {L : List Ow} {n : Int} {k : Nat} {o : Ow} (ho : L[k]? = some o) (h : (L.take k).all (okO n) = true) (h2 : okO n o = true) : (L.take (k + 1)).all (okO n) = true := by
  rw [List.take_add_one, ho, List.all_append, h]
  simp [h2]
theorem all_no {L : List Ow} {n : Int} {k : Nat} {o : Ow} (ho : L[k]? = some o) (h2 : okO n o = false) : L.all (okO n) = false := by
  rw [List.all_eq_false]
  exact ⟨o, List.mem_of_getElem? ho, by rw [h2]; simp⟩
/-- how many servers there may be, how many owners -/
def sizesB (n : Int) (len : Nat) : Bool := decide (1 ≤ n) && (decide (n ≤ 4) && decide (len = 16))
theorem sizes_no {n : Int} {len : Nat} (h : sizesB n len = false) : decide (n < 1) = true ∨ decide (n < 1) = false ∧ (decide (4 < n) = true ∨ decide (4 < n) = false ∧ ((len : Int) != 16) = true) := by
  simp [sizesB] at h ⊢
  omega
theorem sizes_yes {n : Int} {len : Nat} (h : sizesB n len = true) : 1 ≤ n ∧ n ≤ 4 ∧ len = 16 := by
  simp [sizesB] at h
  omega
set_option maxHeartbeats 1000000 in
theorem own_load_no {n : Int} {len : Nat} (h : sizesB n len = false) (w : World) (p : Option Addr) (cap : Nat) : Calls Try.prog 17 #[.int .i64 n, .slice p len cap] w fun e w' => e = .returned (.tuple #[.pointer none, .int .i64 11]) ∧ w' = w := by
  rcases sizes_no h with d1 | ⟨d1, d2 | ⟨d2, d3⟩⟩ <;> clear h
  all_goals
    go_enter Try.func17, Try.ntmps17
    go_wp2_with fail
    exact bodyPost_ret (v := .tuple #[.pointer none, .int .i64 11]) (by simp [results, Try.results17, go_sem]) rfl ⟨rfl, rfl⟩
/-- how Load ends -/
def LoadPost (w : World) (n : Int) (L : List Ow) (e : Ending) (w' : World) : Prop :=
  (L.all (okO n) = true ∧ ∃ g, e = .returned (.tuple #[.pointer (some ⟨g, 0, none⟩), .int .i64 0]) ∧ MB w' g 54 (n - 1) L ∧ w.heap.size ≤ g ∧ Below w.heap.size w w') ∨
  (L.all (okO n) = false ∧ e = .returned (.tuple #[.pointer none, .int .i64 11]) ∧ Below w.heap.size w w')
set_option maxHeartbeats 2000000 in
theorem own_load {w : World} {b off cap : Nat} {n : Int} {L : List Ow} (h : RowA w b off L) (hl : L.length = 16) (h1 : 1 ≤ n) (h4 : n ≤ 4) :
    Calls Try.prog 17 #[.int .i64 n, .slice (some ⟨b, off, none⟩) 16 cap] w (LoadPost w n L) := by
  have HR := hid h
  have HL := hid hl
  obtain ⟨Q, hQ⟩ : ∃ Q, LoadPost w n L = Q := ⟨_, rfl⟩
  rw [hQ]
  have HQ := hid hQ
  clear h hl hQ
  have d1 : decide (n < 1) = false := by simp; omega
  have d2 : decide (4 < n) = false := by simp; omega
  have hw : wrap64 (n - 1) = n - 1 := by unfold wrap64; omega
  go_enter Try.func17, Try.ntmps17
  go_upto_region 3 with fail
  go_upto_region 4 with (first
    | with_reducible refine wpList_build_mp rfl (.tmp 21) rfl rfl ?_
    | with_reducible refine wpList_store_mp rfl (.tmp 6) (.tmp 22) rfl rfl rfl rfl (new_mp w _) ?_)
  intro w1 hm1 hb1
  have hB1 := hb1.new
  clear hb1 d1 d2 hw
  go_wp2_with fail
  go_loopw [7, 8, 25] (fun s7 s8 i wr => ∃ k : Nat, k ≤ 16 ∧ i = .int .i64 k ∧ MB wr w.heap.size 54 (n - 1) (loadK L k) ∧ (L.take k).all (okO n) = true ∧ Below w.heap.size w wr) (fun _ _ i _ => 16 - (intOf i).toNat)
  case atStart => exact ⟨0, by omega, rfl, by rw [loadK_0]; exact hm1, by simp, hB1⟩
  case round =>
    obtain ⟨k, hk, rfl, hmk, hall, hb⟩ := hrel
    have HM := hid hmk
    have HA := hid hall
    clear hmk hm1 hB1 hall
    by_cases hlt : k < 16
    · have hlt' : (k : Int) < 16 := by omega
      obtain ⟨o, hok⟩ := get_some L k (by rw [HL.out]; exact hlt)
      obtain ⟨c1, c2⟩ := (HR.out.later hb).at_ k o hok
      have HO := hid hok
      clear hok
      have hs1 := hb.size
      go_upto_region 7 with fail
      obtain ⟨W, hW⟩ : ∃ W, wr.alloc (.cells #[.int .i64 o.s, .int .i64 o.e] 46) = W := ⟨_, rfl⟩
      have hB := hb.alloc hs1 (.cells #[.int .i64 o.s, .int .i64 o.e] 46)
      have hX := hid (show W.heap[wr.heap.size]? = some (.cells #[.int .i64 o.s, .int .i64 o.e] 46 (0, 0)) by rw [← hW]; exact new_at _ _ _ rfl)
      have HM1 := hid (HM.out.later (below1 wr (.cells #[.int .i64 o.s, .int .i64 o.e] 46)))
      rw [hW] at hB HM1 ⊢
      clear hW c1 c2 hb HM
      obtain ⟨z, hz⟩ : ∃ z, Hid (isSrv n o.s = z) := ⟨_, rfl⟩
      have C := own_has HM1.out o.s
      rw [hz.out] at C
      have x0 := (cells_at hX.out).1
      go_wp2_with fail
      refine C.mono ?_
      rintro x w2 ⟨rfl, h2⟩
      rw [h2]
      clear h2 w2 C
      have hend : okO n o = false → LoadPost w n L (.returned (.tuple #[.pointer none, .int .i64 11])) W := fun q => .inr ⟨all_no HO.out q, rfl, hB⟩
      cases z
      · have HE := hid (hend (by unfold okO; rw [hz.out]; rfl))
        clear hend
        go_wp2_with fail
        rw [← HQ.out]
        exact HE.out
      · by_cases q1 : o.e < 0
        · have HE := hid (hend (by unfold okO; rw [hz.out]; simp; omega))
          have d1 : decide (o.e < 0) = true := by simpa using q1
          clear hend q1
          go_wp2_with fail
          rw [← HQ.out]
          exact HE.out
        · by_cases q2 : 1073741824 < o.e
          · have HE := hid (hend (by unfold okO; rw [hz.out]; simp; omega))
            have d1 : decide (o.e < 0) = false := by simpa using q1
            have d2 : decide (1073741824 < o.e) = true := by simpa using q2
            clear hend q1 q2
            go_wp2_with fail
            rw [← HQ.out]
            exact HE.out
          · have HE := hid (show okO n o = true by unfold okO; rw [hz.out]; simp; omega)
            have d1 : decide (o.e < 0) = false := by simpa using q1
            have d2 : decide (1073741824 < o.e) = false := by simpa using q2
            have hfz := HM1.out.free
            obtain ⟨m1, m2⟩ := HM1.out.cell (loadK_at HL.out hlt)
            clear hend q1 q2
            go_wp2_with fail
            go_roundw
            case rel =>
              refine ⟨k + 1, by omega, by go_num, ?_, all_take HO.out HA.out HE.out, (hB.setCell (Nat.le_refl _) _).setCell (Nat.le_refl _) _⟩
              have := HM1.out.set o hlt
              rw [loadK_set HL.out hlt HO.out] at this
              exact this
            case measure => simp [intOf]; omega
    · obtain rfl : k = 16 := by omega
      have hlt' : ¬ ((16 : Nat) : Int) < 16 := by omega
      have HE : Hid (LoadPost w n L (.returned (.tuple #[.pointer (some ⟨w.heap.size, 0, none⟩), .int .i64 0])) wr) := .inl ⟨by have := HA.out; rw [List.take_of_length_le (by rw [HL.out]; omega)] at this; exact this, w.heap.size, rfl, by have := HM.out; rw [loadK_16 HL.out] at this; exact this, Nat.le_refl _, hb⟩
      go_wp2_with fail
      rw [← HQ.out]
      exact HE.out
end Go.Proofs.Ytnlhlmihhgihbaa
