/- Contract of Do of the package act: what is told, what the table holds behind it; what is refused changes nothing. No conditions beyond those typed. -/
import Derived.Test.YtfoncphdbaaedaaGreatDoorAc4
namespace Go.Proofs.YtfoncphdbaaedaaGreatDoor
open Go.RowKit Go.Maps
set_option linter.unusedVariables false
theorem chk_wh {L : List Th} {c : Cm} (h : chk L c = 0) (hk : c.kd = 3) : 0 ≤ c.wh ∧ c.wh < 4 := by
  obtain ⟨hc, -⟩ := chk_kinds h
  rw [chk_set hc hk] at h
  split at h
  · cases h
  · split at h
    · cases h
    · rename_i h2; omega
set_option maxHeartbeats 2000000 in
theorem act_do {W0 w : World} {tb : Nat} {L : List Th} {K : List Nat} (h : TK W0 w tb L K) {c : Cm} (hc : inC c) {id : Int} (hi : inI id) {n x : Int} {L' : List Th} (hn : Hid (doN L c id = n)) (hx : Hid (doE L c id = x)) (hL : Hid (doL L c id = L')) :
    Calls Tryz.prog 32 #[.pointer (some ⟨tb, 0, none⟩), c.v, .int .i64 id] w fun e w' => e = .returned (.tuple #[.int .i64 n, .int .i64 x]) ∧ TK W0 w' tb L' K ∧ Kept K w w' := by
  obtain ⟨W, hW⟩ : ∃ W, W = w.alloc c.o := ⟨_, rfl⟩
  have hB : Below w.heap.size w W := by rw [hW]; exact below1 _ _
  have K1 := hid (show W.heap[w.heap.size]? = some c.o by rw [hW]; exact new_at _ _ _ rfl)
  obtain ⟨X, hX⟩ : ∃ X, Hid (chk L c = X) := ⟨_, rfl⟩
  have T := hid h
  have C := act_check (h.later hB) (in_sized hc) hX
  clear h
  by_cases h0 : X = 0
  · subst h0
    obtain ⟨hcm, hkk⟩ := chk_kinds hX.out
    have hwh := chk_wh hX.out
    have hid2 := isC_id hcm
    have hHc := hid hc
    have q0 : ((0 : Int) != 0) = false := by decide
    by_cases hk1 : c.kd = 1
    · have hx2 : Hid (dnE L c id = x) := by
        show _ = _
        rw [← hx.out]; unfold doE whoI; rw [if_pos hX.out, if_pos hk1]
      have hL2 : Hid (dnL L c id = L') := by
        show _ = _
        rw [← hL.out]; unfold doL whoI; rw [if_pos hX.out, if_pos hk1]
      have hn2 : Hid (n = if x = 0 then id else 0) := by
        show _ = _
        rw [← hn.out, ← hx.out]; unfold doN whoI; rw [if_pos hk1]
      have hkn : ((c.kd : Int) != 1) = false := by simp [hk1]
      have hk2 := hid hk1
      have HI := hid hi
      have HK := hid hkk
      have HW := hid hwh
      clear hkk hwh hid2 hX hx hL hn hk1 hcm hc hi
      go_enter Tryz.func32, Tryz.ntmps32
      go_upto_region 1 with fail
      rw [← hW]
      clear hW
      go_wp2_with (with_reducible refine wpList_load_cm rfl (.tmp 4) rfl rfl K1.out ?_)
      refine C.mono ?_
      rintro y w2 ⟨rfl, hb2⟩
      have K2 := hid (var_on hb2 K1.out (lt_of_at K1.out))
      have hB2 := below_on hB hb2
      have T2 := hid (T.out.later hB2)
      have hK2 := hid (T.out.kept hB2)
      have n0 : w2.cell? ⟨w.heap.size, 0, none⟩ = some (.int .i64 c.kd) := cell_i K2.out (k := 0) (by simp [plI])
      clear C K1 hb2 hB T
      go_wp2_with (with_reducible refine wpList_load_cm rfl (.tmp 4) rfl rfl K2.out ?_)
      refine (act_done T2.out hHc.out HK.out HW.out HI.out hx2 hL2).mono ?_
      rintro y w3 ⟨rfl, hT, hK⟩
      clear n0 hkn
      by_cases hx0 : x = 0
      · have e1 : ((x : Int) != 0) = false := by simp [hx0]
        have e2 : n = id := by rw [hn2.out, if_pos hx0]
        subst e2
        have hx0' := hid hx0
        clear hx0
        go_wp2_with fail
        exact bodyPost_ret (v := .tuple #[.int .i64 n, .int .i64 0]) (by simp [results, Tryz.results32, go_sem]) rfl ⟨by rw [hx0'.out], hT, hK2.out.trans hK⟩
      · have e1 : ((x : Int) != 0) = true := by simp [hx0]
        have e2 : n = 0 := by rw [hn2.out, if_neg hx0]
        subst e2
        go_wp2_with fail
        exact bodyPost_ret (v := .tuple #[.int .i64 0, .int .i64 x]) (by simp [results, Tryz.results32, go_sem]) rfl ⟨rfl, hT, hK2.out.trans hK⟩
    · have hx2 : Hid (dnE L c c.id = x) := by
        show _ = _
        rw [← hx.out]; unfold doE whoI; rw [if_pos hX.out, if_neg hk1]
      have hL2 : Hid (dnL L c c.id = L') := by
        show _ = _
        rw [← hL.out]; unfold doL whoI; rw [if_pos hX.out, if_neg hk1]
      have hn2 : Hid (n = if x = 0 then c.id else 0) := by
        show _ = _
        rw [← hn.out, ← hx.out]; unfold doN whoI; rw [if_neg hk1]
      have hkn : ((c.kd : Int) != 1) = true := by simp [hk1]
      have hk2 := hid hk1
      have HI := hid (show inI c.id from ⟨by omega, by omega⟩)
      have HK := hid hkk
      have HW := hid hwh
      clear hkk hwh hid2 hX hx hL hn hk1 hcm hc hi
      go_enter Tryz.func32, Tryz.ntmps32
      go_upto_region 1 with fail
      rw [← hW]
      clear hW
      go_wp2_with (with_reducible refine wpList_load_cm rfl (.tmp 4) rfl rfl K1.out ?_)
      refine C.mono ?_
      rintro y w2 ⟨rfl, hb2⟩
      have K2 := hid (var_on hb2 K1.out (lt_of_at K1.out))
      have hB2 := below_on hB hb2
      have T2 := hid (T.out.later hB2)
      have hK2 := hid (T.out.kept hB2)
      have n0 : w2.cell? ⟨w.heap.size, 0, none⟩ = some (.int .i64 c.kd) := cell_i K2.out (k := 0) (by simp [plI])
      have n1 : w2.cell? ⟨w.heap.size, 1, none⟩ = some (.int .i64 c.id) := cell_i K2.out (k := 1) (by simp [plI])
      clear C K1 hb2 hB T
      go_wp2_with (with_reducible refine wpList_load_cm rfl (.tmp 4) rfl rfl K2.out ?_)
      refine (act_done T2.out hHc.out HK.out HW.out HI.out hx2 hL2).mono ?_
      rintro y w3 ⟨rfl, hT, hK⟩
      clear n0 n1 hkn
      by_cases hx0 : x = 0
      · have e1 : ((x : Int) != 0) = false := by simp [hx0]
        have e2 : n = c.id := by rw [hn2.out, if_pos hx0]
        subst e2
        have hx0' := hid hx0
        clear hx0
        go_wp2_with fail
        exact bodyPost_ret (v := .tuple #[.int .i64 c.id, .int .i64 0]) (by simp [results, Tryz.results32, go_sem]) rfl ⟨by rw [hx0'.out], hT, hK2.out.trans hK⟩
      · have e1 : ((x : Int) != 0) = true := by simp [hx0]
        have e2 : n = 0 := by rw [hn2.out, if_neg hx0]
        subst e2
        go_wp2_with fail
        exact bodyPost_ret (v := .tuple #[.int .i64 0, .int .i64 x]) (by simp [results, Tryz.results32, go_sem]) rfl ⟨rfl, hT, hK2.out.trans hK⟩
  · have hX0 : ¬ chk L c = 0 := by rw [hX.out]; exact h0
    have e1 : X = x := by rw [← hx.out, ← hX.out]; unfold doE; rw [if_neg hX0]
    have e2 : n = 0 := by
      rw [← hn.out]; unfold doN; rw [if_neg]
      unfold doE; rw [if_neg hX0]; exact hX0
    have e3 : L' = L := by rw [← hL.out]; unfold doL; rw [if_neg hX0]
    subst e1 e2 e3
    have q0 : ((X : Int) != 0) = true := by simp [h0]
    clear hX0 hX hx hL hn hi hc
    go_enter Tryz.func32, Tryz.ntmps32
    go_upto_region 1 with fail
    rw [← hW]
    clear hW
    go_wp2_with (with_reducible refine wpList_load_cm rfl (.tmp 4) rfl rfl K1.out ?_)
    refine C.mono ?_
    rintro y w2 ⟨rfl, hb2⟩
    have hB2 := below_on hB hb2
    have T2 := hid (T.out.later hB2)
    have hK2 := hid (T.out.kept hB2)
    clear C K1 hb2 hB T
    go_wp2_with fail
    exact bodyPost_ret (v := .tuple #[.int .i64 0, .int .i64 X]) (by simp [results, Tryz.results32, go_sem]) rfl ⟨rfl, T2.out, hK2.out⟩
end Go.Proofs.YtfoncphdbaaedaaGreatDoor
