/- Contracts of Hand, of the package owner and of the reference. -/
import Derived.Test.YtnlhlmihhgihbaaOwA
namespace Go.Proofs.Ytnlhlmihhgihbaa
open Go.RowKit
set_option linter.unusedVariables false
theorem handE_form {n : Int} {L : List Ow} {c f t : Int} (h : isCell c = false) : handE n L c f t = 11 := by unfold handE; rw [if_pos h]
theorem handE_srv {n : Int} {L : List Ow} {c f t : Int} (h : isCell c = true) (h2 : isSrv n t = false) : handE n L c f t = 19 := by unfold handE; rw [if_neg (by rw [h]; simp), if_pos h2]
theorem handE_own {n : Int} {L : List Ow} {c f t : Int} (h : isCell c = true) (h2 : isSrv n t = true) (h3 : ¬ (atO L c).s = f) : handE n L c f t = 17 := by unfold handE; rw [if_neg (by rw [h]; simp), if_neg (by rw [h2]; simp), if_pos h3]
theorem handE_same {n : Int} {L : List Ow} {c f t : Int} (h : isCell c = true) (h2 : isSrv n t = true) (h3 : (atO L c).s = f) (h4 : t = f) : handE n L c f t = 19 := by unfold handE; rw [if_neg (by rw [h]; simp), if_neg (by rw [h2]; simp), if_neg (fun k => k h3), if_pos h4]
theorem handE_ok {n : Int} {L : List Ow} {c f t : Int} (h : isCell c = true) (h2 : isSrv n t = true) (h3 : (atO L c).s = f) (h4 : ¬ t = f) : handE n L c f t = 0 := by unfold handE; rw [if_neg (by rw [h]; simp), if_neg (by rw [h2]; simp), if_neg (fun k => k h3), if_neg h4]
theorem handL_bad {n : Int} {L : List Ow} {c f t x : Int} (h : handE n L c f t = x) (hx : ¬ x = 0) : handL n L c f t = L := by unfold handL; rw [if_neg (by rw [h]; exact hx)]
theorem handL_ok {n : Int} {L : List Ow} {k : Nat} {o : Ow} {f t : Int} (h : handE n L k f t = 0) (ho : L[k]? = some o) : handL n L k f t = L.set k ⟨t, wrap64 (o.e + 1)⟩ := by
  unfold handL
  rw [if_pos h, at_nat ho]
  rfl
/-- how a hand ends -/
def HandPost (w : World) (g : Nat) (t : TypeId) (a n : Int) (L : List Ow) (c f u : Int) (e : Ending) (w' : World) : Prop := e = .returned (.int .i64 (handE n L c f u)) ∧ MB w' g t a (handL n L c f u) ∧ But g w w'
theorem HandPost.bad {w : World} {g : Nat} {t : TypeId} {a n : Int} {L : List Ow} {c f u x : Int} (h : handE n L c f u = x) (hx : ¬ x = 0) (hm : MB w g t a L) : HandPost w g t a n L c f u (.returned (.int .i64 x)) w := ⟨by rw [h], by rw [handL_bad h hx]; exact hm, But.refl _ _⟩
theorem MB.drew {w : World} {g : Nat} {t : TypeId} {a : Int} {L : List Ow} (h : MB w g t a L) : MB w.drew g t a L := ⟨h.at_, h.len⟩
theorem But.drew {g : Nat} {w w' : World} (h : But g w w') : But g w w'.drew := ⟨h.os, h.tape, h.output, h.size, h.block⟩
set_option maxHeartbeats 2000000 in
theorem own_hand {w : World} {g : Nat} {t : TypeId} {n : Int} {L : List Ow} (h : MB w g t (n - 1) L) (c f u : Int) :
    Calls Try.prog 12 #[.pointer (some ⟨g, 0, none⟩), .int .i64 c, .int .i64 f, .int .i64 u] w (HandPost w g t (n - 1) n L c f u) := by
  obtain ⟨z, hz⟩ : ∃ z, Hid (isCell c = z) := ⟨_, rfl⟩
  obtain ⟨y, hy⟩ : ∃ y, Hid (isSrv n u = y) := ⟨_, rfl⟩
  obtain ⟨Q, hQ⟩ : ∃ Q, HandPost w g t (n - 1) n L c f u = Q := ⟨_, rfl⟩
  have C1 := cells_is w c
  have C2 := own_has h u
  rw [hz.out] at C1
  rw [hy.out] at C2
  rw [hQ]
  have HQ := hid hQ
  have HM := hid h
  clear hQ h
  cases z
  · clear C2
    go_enter Try.func12, Try.ntmps12
    go_wp2_with fail
    refine C1.mono ?_
    rintro x w1 ⟨rfl, h2⟩
    rw [h2]
    clear h2 w1 C1
    go_wp2_with fail
    rw [← HQ.out]
    exact HandPost.bad (handE_form hz.out) (by omega) HM.out
  obtain ⟨k, rfl, hk⟩ := cell_nat hz.out
  obtain ⟨o, ho⟩ := HM.out.get hk
  obtain ⟨c1, c2⟩ := HM.out.cell ho
  have hfz := HM.out.free
  have HO := hid (at_nat ho)
  have HG := hid ho
  clear ho
  cases y
  · go_enter Try.func12, Try.ntmps12
    go_wp2_with fail
    refine C1.mono ?_
    rintro x w1 ⟨rfl, h2⟩
    rw [h2]
    clear h2 w1 C1
    go_wp2_with fail
    refine C2.mono ?_
    rintro x w1 ⟨rfl, h2⟩
    rw [h2]
    clear h2 w1 C2
    go_wp2_with fail
    rw [← HQ.out]
    exact HandPost.bad (handE_srv hz.out hy.out) (by omega) HM.out
  go_enter Try.func12, Try.ntmps12
  go_wp2_with fail
  refine C1.mono ?_
  rintro x w1 ⟨rfl, h2⟩
  rw [h2]
  clear h2 w1 C1
  go_wp2_with fail
  refine C2.mono ?_
  rintro x w1 ⟨rfl, h2⟩
  rw [h2]
  clear h2 w1 C2
  by_cases e3 : o.s = f
  · have d3 : (o.s != f) = false := by simpa using e3
    by_cases e4 : u = f
    · have d4 : (u == f) = true := by simpa using e4
      have HE := hid (handE_same hz.out hy.out (by rw [HO.out]; exact e3) e4)
      clear e3 e4
      go_wp2_with fail
      rw [← HQ.out]
      exact HandPost.bad HE.out (by omega) HM.out
    · have d4 : (u == f) = false := by simpa using e4
      have HE := hid (handE_ok hz.out hy.out (by rw [HO.out]; exact e3) e4)
      clear e3 e4
      go_wp2_with fail
      go_region
      go_wp2
      rw [← HQ.out]
      refine ⟨by rw [HE.out]; rfl, ?_, ?_⟩
      · rw [handL_ok HE.out HG.out]
        exact (HM.out.set ⟨u, wrap64 (o.e + 1)⟩ hk).drew
      · exact (((But.refl g w).setCell _ _).setCell _ _).drew
  · have d3 : (o.s != f) = true := by simpa using e3
    have HE := hid (handE_own (f := f) hz.out hy.out (by rw [HO.out]; exact e3))
    clear e3
    go_wp2_with fail
    rw [← HQ.out]
    exact HandPost.bad HE.out (by omega) HM.out
set_option maxHeartbeats 2000000 in
theorem ref_hand {w : World} {g : Nat} {t : TypeId} {n : Int} {L : List Ow} (h : MB w g t n L) (c f u : Int) :
    Calls Try.prog 13 #[.pointer (some ⟨g, 0, none⟩), .int .i64 c, .int .i64 f, .int .i64 u] w (HandPost w g t n n L c f u) := by
  obtain ⟨z, hz⟩ : ∃ z, Hid (isCell c = z) := ⟨_, rfl⟩
  obtain ⟨y, hy⟩ : ∃ y, Hid (isSrv n u = y) := ⟨_, rfl⟩
  obtain ⟨Q, hQ⟩ : ∃ Q, HandPost w g t n n L c f u = Q := ⟨_, rfl⟩
  have C1 := ref_is_cell w c
  have h0 := h.num
  rw [hz.out] at C1
  rw [hQ]
  have HQ := hid hQ
  have HM := hid h
  clear hQ h
  cases z
  · go_enter Try.func13, Try.ntmps13
    go_wp2_with fail
    refine C1.mono ?_
    rintro x w1 ⟨rfl, h2⟩
    rw [h2]
    clear h2 w1 C1
    go_wp2_with fail
    rw [← HQ.out]
    exact HandPost.bad (handE_form hz.out) (by omega) HM.out
  obtain ⟨k, rfl, hk⟩ := cell_nat hz.out
  obtain ⟨o, ho⟩ := HM.out.get hk
  obtain ⟨c1, c2⟩ := HM.out.cell ho
  have hfz := HM.out.free
  have HO := hid (at_nat ho)
  have HG := hid ho
  clear ho
  have hY := hy.out
  unfold isSrv at hY
  cases y
  · have hY' : decide (u < 0) = true ∨ decide (u < 0) = false ∧ decide (n ≤ u) = true := by simp at hY ⊢; omega
    clear hY
    rcases hY' with d1 | ⟨d1, d2⟩
    · go_enter Try.func13, Try.ntmps13
      go_wp2_with fail
      refine C1.mono ?_
      rintro x w1 ⟨rfl, h2⟩
      rw [h2]
      clear h2 w1 C1
      go_wp2_with fail
      rw [← HQ.out]
      exact HandPost.bad (handE_srv hz.out hy.out) (by omega) HM.out
    · go_enter Try.func13, Try.ntmps13
      go_wp2_with fail
      refine C1.mono ?_
      rintro x w1 ⟨rfl, h2⟩
      rw [h2]
      clear h2 w1 C1
      go_wp2_with fail
      rw [← HQ.out]
      exact HandPost.bad (handE_srv hz.out hy.out) (by omega) HM.out
  have d1 : decide (u < 0) = false := by simp at hY ⊢; omega
  have d2 : decide (n ≤ u) = false := by simp at hY ⊢; omega
  clear hY
  go_enter Try.func13, Try.ntmps13
  go_wp2_with fail
  refine C1.mono ?_
  rintro x w1 ⟨rfl, h2⟩
  rw [h2]
  clear h2 w1 C1
  by_cases e3 : o.s = f
  · have d3 : (o.s != f) = false := by simpa using e3
    by_cases e4 : u = f
    · have d4 : (u == f) = true := by simpa using e4
      have HE := hid (handE_same hz.out hy.out (by rw [HO.out]; exact e3) e4)
      clear e3 e4
      go_wp2_with fail
      rw [← HQ.out]
      exact HandPost.bad HE.out (by omega) HM.out
    · have d4 : (u == f) = false := by simpa using e4
      have HE := hid (handE_ok hz.out hy.out (by rw [HO.out]; exact e3) e4)
      clear e3 e4
      go_wp2_with fail
      go_region
      go_wp2
      rw [← HQ.out]
      refine ⟨by rw [HE.out]; rfl, ?_, ?_⟩
      · rw [handL_ok HE.out HG.out]
        exact (HM.out.set ⟨u, wrap64 (o.e + 1)⟩ hk).drew
      · exact (((But.refl g w).setCell _ _).setCell _ _).drew
  · have d3 : (o.s != f) = true := by simpa using e3
    have HE := hid (handE_own (f := f) hz.out hy.out (by rw [HO.out]; exact e3))
    clear e3
    go_wp2_with fail
    rw [← HQ.out]
    exact HandPost.bad HE.out (by omega) HM.out
end Go.Proofs.Ytnlhlmihhgihbaa
