/- Contract of each of the package world: commands one behind the other, each as the world does it. No conditions beyond those typed. -/
import Derived.Test.YtfoncphdbaaedaaGreatDoorWB
import Derived.Test.YtfoncphdbaaedaaGreatDoorCR
import Derived.Test.YtfoncphdbaaedaaGreatDoorRI
namespace Go.Proofs.YtfoncphdbaaedaaGreatDoor
open Go.RowKit Go.Maps
set_option linter.unusedVariables false
set_option maxRecDepth 100000
theorem RowM.kept {W W' : World} {p : Option Addr} {L : List Cm} {K : List Nat} (h : RowM W p L) (hK : Kept K W W') (hp0 : L = [] ∨ ∀ k, k ∈ rowB p → k ∈ K) : RowM W' p L := by
  rcases hp0 with h0 | hp
  · exact .inl h0
  rcases h with h | ⟨b, off, rfl, hc⟩
  · exact .inl h
  · exact .inr ⟨b, off, rfl, fun k t hk j v hv => hK.cell (hp b (by simp [rowB])) (hc k t hk j v hv)⟩
theorem RowIs.kept {W W' : World} {p : Option Addr} {vs : List Value} {K : List Nat} (h : RowIs W p vs) (hK : Kept K W W') (hp0 : vs = [] ∨ ∀ k, k ∈ rowB p → k ∈ K) : RowIs W' p vs := by
  rcases hp0 with h0 | hp
  · exact .inl h0
  rcases h with h | ⟨b, off, rfl, hc⟩
  · exact .inl h
  · exact .inr ⟨b, off, rfl, fun i hi => hK.cell (hp b (by simp [rowB])) (hc i hi)⟩
/-- what the world holds behind k commands; what the last one of them told -/
def stW (cs : List Cm) (ids : List Int) (L : List Th) : Nat → List Th
  | 0 => L
  | k + 1 => wdL (stW cs ids L k) (cs.getD k zC) (ids.getD k 0)
def stN (cs : List Cm) (ids : List Int) (L : List Th) : Nat → Int
  | 0 => 0
  | k + 1 => wdN (stW cs ids L k) (cs.getD k zC) (ids.getD k 0)
def stE (cs : List Cm) (ids : List Int) (L : List Th) : Nat → Int
  | 0 => 0
  | k + 1 => wdE (stW cs ids L k) (cs.getD k zC) (ids.getD k 0)
abbrev twoO : Obj := .cells #[fnV 32, fnV 33] 71
theorem sq_do {W0 w : World} {tb : Nat} {L : List Th} {K : List Nat} (h : TK W0 w tb L K) {c : Cm} (hc : inC c) (hi : inI c.id) {id : Int} {n x : Int} {L' : List Th} (hn : Hid (sqN L c id = n)) (hx : Hid (sqE L c id = x)) (hL : Hid (sqL L c id = L')) :
    Calls Tryz.prog 33 #[.pointer (some ⟨tb, 0, none⟩), c.v, .int .i64 id] w fun e w' => e = .returned (.tuple #[.int .i64 n, .int .i64 x]) ∧ TK W0 w' tb L' K ∧ Kept K w w' := by
  unfold sqN at hn
  unfold sqE at hx
  unfold sqL at hL
  by_cases hk : c.kd = 2
  · rw [if_pos hk] at hn hx hL
    obtain rfl : c.id = n := hn.out
    exact sq_move h hk hi id hx hL
  · rw [if_neg hk] at hn hx hL
    by_cases hf : 200 ≤ L.length
    · rw [if_pos hf] at hn hx hL
      obtain rfl : 0 = n := hn.out
      obtain rfl : 16 = x := hx.out
      obtain rfl : L = L' := hL.out
      exact sq_full h hk id hf
    · rw [if_neg hf] at hn hx hL
      refine sq_put h hc hk hf hx ?_ hL
      show _ = _
      rw [← hn.out, ← hx.out]
set_option maxHeartbeats 4000000 in
theorem wd_each {W0 w : World} {wb : Nat} {L : List Th} {K : List Nat} (h : TK W0 w wb L K) {p q : Option Addr} {cap cap' : Nat} {cs : List Cm} {ids : List Int} (hr : RowM w p cs) (hp : cs = [] ∨ ∀ k, k ∈ rowB p → k ∈ K) (hcs : ∀ c ∈ cs, inC c) {n : Nat} (hn : Hid (cs.length = n)) (hnl : n ≤ maxLen)
    (hq : RowIs w q (nums .i64 ids)) (hqk : nums .i64 ids = [] ∨ ∀ k, k ∈ rowB q → k ∈ K) (hids : ∀ i ∈ ids, inI i) {m : Nat} (hm : Hid (ids.length = m)) (hml : m ≤ maxLen) {N E : Int} {L' : List Th} (hN : Hid (stN cs ids L n = N)) (hE : Hid (stE cs ids L n = E)) (hL : Hid (stW cs ids L n = L')) :
    Calls Tryz.prog 21 #[.pointer (some ⟨wb, 0, none⟩), .slice p n cap, .slice q m cap'] w fun e w' => e = .returned (.tuple #[.int .i64 N, .int .i64 E]) ∧ TK W0 w' wb L' K ∧ Kept K w w' := by
  have hnl' : n ≤ 9223372036854775807 := by unfold maxLen at hnl; omega
  have HR := hid hr
  have HP := hid hp
  have HCS := hid hcs
  have HQ := hid hq
  have HQK := hid hqk
  have HI := hid hids
  have HT := hid h
  clear h hr hp hcs hq hqk hids hnl
  go_enter Tryz.func21, Tryz.ntmps21
  go_wp2_with fail
  go_step3
  go_wp2_with fail
  go_step3
  go_wp2_with fail
  go_loopw [6, 7, 15] (fun e6 e7 i wr => ∃ (k : Nat) (N1 E1 : Int) (Lk : List Th), k ≤ n ∧ e6 = .int .i64 N1 ∧ e7 = .int .i64 E1 ∧ i = .int .i64 (k : Nat) ∧ Hid (stN cs ids L k = N1) ∧ Hid (stE cs ids L k = E1) ∧ Hid (stW cs ids L k = Lk) ∧ Hid (TK W0 wr wb Lk K) ∧ Hid (Kept K w wr)) (fun _ _ i _ => n - (intOf i).toNat)
  case atStart => exact ⟨0, 0, 0, L, by omega, rfl, rfl, rfl, rfl, rfl, rfl, HT, fun k hk => rfl⟩
  case round =>
    obtain ⟨k, N1, E1, Lk, hk, rfl, rfl, rfl, hN1, hE1, hLk, HTk, HKk⟩ := hrel
    by_cases hlt : k < n
    · have hlt' : (k : Int) < (n : Int) := by omega
      obtain ⟨c, hc⟩ : ∃ c, cs[k]? = some c := ⟨cs[k]'(by rw [hn.out]; exact hlt), by simp⟩
      obtain ⟨rb, ro, rfl, hrg⟩ := (HR.out.kept HKk.out HP.out).at hc
      have HG := hid hrg
      have hcin := hid (HCS.out c (List.mem_of_getElem? hc))
      have hcd : cs.getD k zC = c := by rw [List.getD_eq_getElem?_getD, hc]; rfl
      obtain ⟨D, hD⟩ : ∃ D, ids.getD k 0 = D := ⟨_, rfl⟩
      have hDI : inI D := by
        rw [← hD, List.getD_eq_getElem?_getD]
        cases hx : ids[k]? with
        | none => exact ⟨by decide, by decide⟩
        | some x => exact HI.out x (List.mem_of_getElem? hx)
      have hSN : Hid (stN cs ids L (k + 1) = wdN Lk c D) := by
        show wdN _ _ _ = _
        rw [hLk.out, hcd, hD]
      have hSE : Hid (stE cs ids L (k + 1) = wdE Lk c D) := by
        show wdE _ _ _ = _
        rw [hLk.out, hcd, hD]
      have hSL : Hid (stW cs ids L (k + 1) = wdL Lk c D) := by
        show wdL _ _ _ = _
        rw [hLk.out, hcd, hD]
      obtain ⟨N1', hN1'⟩ : ∃ x, Hid (doN Lk c D = x) := ⟨_, rfl⟩
      obtain ⟨E1', hE1'⟩ : ∃ x, Hid (doE Lk c D = x) := ⟨_, rfl⟩
      obtain ⟨L1', hL1'⟩ : ∃ x, Hid (doL Lk c D = x) := ⟨_, rfl⟩
      obtain ⟨N2', hN2'⟩ : ∃ x, Hid (sqN Lk c D = x) := ⟨_, rfl⟩
      obtain ⟨E2', hE2'⟩ : ∃ x, Hid (sqE Lk c D = x) := ⟨_, rfl⟩
      obtain ⟨L2', hL2'⟩ : ∃ x, Hid (sqL Lk c D = x) := ⟨_, rfl⟩
      have f16 : Hid (E1' = 16 → L1' = Lk) := fun h => by rw [← hL1'.out]; exact (do_16 HTk.out.good (hE1'.out.trans h)).2
      have fN1 : Hid (¬ E1' = 16 → stN cs ids L (k + 1) = N1') := fun h => by rw [hSN.out]; unfold wdN; rw [if_neg (by rw [hE1'.out]; exact h)]; exact hN1'.out
      have fE1 : Hid (¬ E1' = 16 → stE cs ids L (k + 1) = E1') := fun h => by rw [hSE.out]; unfold wdE; rw [if_neg (by rw [hE1'.out]; exact h)]; exact hE1'.out
      have fL1 : Hid (¬ E1' = 16 → stW cs ids L (k + 1) = L1') := fun h => by rw [hSL.out]; unfold wdL; rw [if_neg (by rw [hE1'.out]; exact h)]; exact hL1'.out
      have fN2 : Hid (E1' = 16 → stN cs ids L (k + 1) = N2') := fun h => by rw [hSN.out]; unfold wdN; rw [if_pos (by rw [hE1'.out]; exact h)]; exact hN2'.out
      have fE2 : Hid (E1' = 16 → stE cs ids L (k + 1) = E2') := fun h => by rw [hSE.out]; unfold wdE; rw [if_pos (by rw [hE1'.out]; exact h)]; exact hE2'.out
      have fL2 : Hid (E1' = 16 → stW cs ids L (k + 1) = L2') := fun h => by rw [hSL.out]; unfold wdL; rw [if_pos (by rw [hE1'.out]; exact h)]; exact hL2'.out
      have hDI' := hid hDI
      have hci : Hid (E1' = 16 → inI c.id) := fun h => by have h1 := (doE_16 HTk.out.good).1 (hE1'.out.trans h); have h2 := isC_id (chk_16 h1).1; exact ⟨by omega, by omega⟩
      have hDh := hid hD
      clear hSN hSE hSL hc hcd hrg hDI hD hN1 hE1 hLk
      go_upto_region 4 with (first | with_reducible refine wpList_load_mid_cm rfl (.tmp 18) rfl rfl HG.out ?_ | ((with_reducible refine wpList_store_cm (c := c) rfl (.tmp 9) (.tmp 19) rfl rfl rfl (new_zero _) ?_); intro W3 h3 b3 s3))
      have b3' : Below wr.heap.size wr W3 := b3.below (below1 wr _) (Nat.le_refl _)
      have C3 := hid (show W3.heap[wr.heap.size]? = some c.o from h3)
      have T3 := hid (HTk.out.also b3' (Nat.le_refl _) (lt_of_at h3))
      have K3 := hid (HKk.out.trans (HTk.out.kept b3'))
      have Q3 := hid (HQ.out.kept K3.out HQK.out)
      obtain ⟨g, hg⟩ : ∃ g, wr.heap.size = g := ⟨_, rfl⟩
      rw [hg] at C3 T3 ⊢
      clear HG h3 b3 s3 b3' HTk HKk hg
      clear wr
      obtain ⟨W7, hW7⟩ : ∃ W7, W3.alloc twoO = W7 := ⟨_, rfl⟩
      have b7 : Below W3.heap.size W3 W7 := by rw [← hW7]; exact below1 _ _
      have F7 := hid (show W7.heap[W3.heap.size]? = some (.cells #[fnV 32, fnV 33] 71 (0, 0)) by rw [← hW7]; exact new_at _ _ _ rfl)
      have C7 := hid (var_on b7 C3.out (lt_of_at C3.out))
      have T7 := hid (T3.out.also b7 (Nat.le_refl _) (lt_of_at F7.out))
      have HK0 := hid (K3.out.trans ((T3.out.drop (K' := K) (fun k hk => by simp [hk])).kept b7))
      obtain ⟨fb, hfb⟩ : ∃ fb, W3.heap.size = fb := ⟨_, rfl⟩
      have hfb' := hid hfb
      have hW7' := hid hW7
      rw [hfb] at F7 T7
      clear hfb hW7 b7
      by_cases hkm : k < m
      · have hkm' : (k : Int) < (m : Int) := by omega
        obtain ⟨x, hx⟩ : ∃ x, ids[k]? = some x := ⟨ids[k]'(by rw [hm.out]; exact hkm), by simp⟩
        obtain rfl : x = D := by rw [← hDh.out, List.getD_eq_getElem?_getD, hx]; rfl
        obtain ⟨ib, io, rfl, hic⟩ := Q3.out.at (i := k) (v := .int .i64 x) (by unfold nums; rw [List.getElem?_map, hx]; rfl)
        clear hx
        go_upto_region 7 with fail
        clear hic
        go_wp2_with fail
        try rw [hfb'.out]
        try rw [hW7'.out]
        clear hW7' hfb' C3 T3 K3 Q3
        clear hDh
        go_loopw [6, 7, 30] (fun e6 e7 i wr => ∃ (j : Nat) (N2 E2 : Int) (Lj : List Th), e6 = .int .i64 N2 ∧ e7 = .int .i64 E2 ∧ i = .int .i64 (j : Nat) ∧ Hid ((j = 0 ∧ Lj = Lk) ∨ (j = 1 ∧ Lj = Lk ∧ E1' = 16) ∨ (j = 2 ∧ Lj = L2' ∧ N2 = N2' ∧ E2 = E2' ∧ E1' = 16)) ∧ Hid (TK W0 wr wb Lj (fb :: g :: K)) ∧ Hid (Kept (fb :: g :: K) W7 wr)) (fun _ _ i _ => 2 - (intOf i).toNat)
        case atStart => exact ⟨0, _, _, Lk, rfl, rfl, rfl, .inl ⟨rfl, rfl⟩, T7, fun k hk => rfl⟩
        case round =>
          obtain ⟨j, N2, E2, Lj, rfl, rfl, rfl, hj, T, hKp⟩ := hrel
          have CG : _ := hKp.out.at (g := g) (by simp) C7.out
          have FG := cells_at (hKp.out.at (g := fb) (by simp) F7.out)
          have g0 : wr.cell? ⟨fb, 0, none⟩ = some (fnV 32) := FG.1 0
          have g1 : wr.cell? ⟨fb, 1, none⟩ = some (fnV 33) := FG.1 1
          clear FG
          rcases hj.out with ⟨rfl, rfl⟩ | ⟨rfl, rfl, h16⟩ | ⟨rfl, rfl, rfl, rfl, h16⟩
          · clear hj g1
            go_wp2_with fail
            clear g0
            refine wp_region_held_drew (S := fun w' => w'.heap[g]? = some c.o) (by kernel_rfl) CG (fun hHeld => ?_)
            refine take_yes (i := 0) (v := fnV 32) rfl (by kernel_rfl) (by kernel_rfl) (by kernel_rfl) (fun _ _ _ h => h) (by rfl) ?hy0b hHeld ?rest0b
            case hy0b =>
              intro w' hSw
              first | rfl | (go_simp; done)
            try simp only [Act.put, List.setIfInBounds_toArray, List.set_cons_zero, List.set_cons_succ]
            refine take_yes (i := 1) (v := ?v1b) rfl (by kernel_rfl) (by kernel_rfl) (by kernel_rfl) (fun _ _ _ h => h) (by rfl) ?hy1b hHeld ?rest1b
            case hy1b =>
              intro w' hSw
              go_simp <;> with_reducible rfl
            try simp only [Act.put, List.setIfInBounds_toArray, List.set_cons_zero, List.set_cons_succ]
            refine take_yes (i := 2) (v := ?v2b) rfl (by kernel_rfl) (by kernel_rfl) (by kernel_rfl) (fun _ _ _ h => h) (by rfl) ?hy2b hHeld ?rest2b
            case hy2b =>
              intro w' hSw
              go_simp <;> with_reducible rfl
            try simp only [Act.put, List.setIfInBounds_toArray, List.set_cons_zero, List.set_cons_succ]
            refine take_yes (i := 3) (v := ?v3b) rfl (by kernel_rfl) (by kernel_rfl) (by kernel_rfl) (fun _ _ _ h => h) (by rfl) ?hy3b hHeld ?rest3b
            case hy3b =>
              intro w' hSw
              go_simp <;> with_reducible rfl
            try simp only [Act.put, List.setIfInBounds_toArray, List.set_cons_zero, List.set_cons_succ]
            refine take_yes (i := 4) (v := c.v) rfl (by kernel_rfl) (by kernel_rfl) (by kernel_rfl) (fun _ _ _ h => h) (by rfl) (fun w' hSw => exec_load_cm (.tmp 9) rfl rfl hSw) hHeld ?rest4b
            try simp only [Act.put, List.setIfInBounds_toArray, List.set_cons_zero, List.set_cons_succ]
            refine take_yes (i := 5) (v := ?v5b) rfl (by kernel_rfl) (by kernel_rfl) (by kernel_rfl) (fun _ _ _ h => h) (by rfl) ?hy5b hHeld ?rest5b
            case hy5b =>
              intro w' hSw
              go_simp <;> with_reducible rfl
            try simp only [Act.put, List.setIfInBounds_toArray, List.set_cons_zero, List.set_cons_succ]
            refine wpAnyH_ready (rs := [6]) (by kernel_rfl) (by simp) (cons_at (i := 6) rfl (fun K9 hK9 => ?_) AllReadyH.nil)
            go_simp
            go_at_call 32
            with_reducible refine (act_do (T.out.later (by first | exact Below.refl _ _ | exact (Below.refl _ _).drew)) hcin.out hDI'.out hN1' hE1' hL1').mono ?_
            rintro y w6 ⟨rfl, hT, hKt⟩
            have CG6 := hKt.at (g := g) (by simp) CG
            have HT := hid hT
            have HKt := hid hKt
            clear hT hKt
            go_wp2_with fail
            refine hK9.out _ _ CG6 (fun hHeld => ?_)
            clear hK9 K9
            try simp only [Act.put, List.setIfInBounds_toArray, List.set_cons_zero, List.set_cons_succ]
            refine take_yes (i := 7) (v := ?v7b) rfl (by kernel_rfl) (by kernel_rfl) (by kernel_rfl) (fun _ _ _ h => h) (by rfl) ?hy7b hHeld ?rest7b
            case hy7b =>
              intro w' hSw
              go_simp <;> with_reducible rfl
            try simp only [Act.put, List.setIfInBounds_toArray, List.set_cons_zero, List.set_cons_succ]
            refine take_yes (i := 8) (v := ?v8b) rfl (by kernel_rfl) (by kernel_rfl) (by kernel_rfl) (fun _ _ _ h => h) (by rfl) ?hy8b hHeld ?rest8b
            case hy8b =>
              intro w' hSw
              go_simp <;> with_reducible rfl
            try simp only [Act.put, List.setIfInBounds_toArray, List.set_cons_zero, List.set_cons_succ]
            refine take_yes (i := 9) (v := ?v9b) rfl (by kernel_rfl) (by kernel_rfl) (by kernel_rfl) (fun _ _ _ h => h) (by rfl) ?hy9b hHeld ?rest9b
            case hy9b =>
              intro w' hSw
              go_simp <;> with_reducible rfl
            try simp only [Act.put, List.setIfInBounds_toArray, List.set_cons_zero, List.set_cons_succ]
            refine take_yes (i := 10) (v := ?v10b) rfl (by kernel_rfl) (by kernel_rfl) (by kernel_rfl) (fun _ _ _ h => h) (by rfl) ?hy10b hHeld ?rest10b
            case hy10b =>
              intro w' hSw
              go_simp <;> with_reducible rfl
            try simp only [Act.put, List.setIfInBounds_toArray, List.set_cons_zero, List.set_cons_succ]
            refine take_yes (i := 11) (v := ?v11b) rfl (by kernel_rfl) (by kernel_rfl) (by kernel_rfl) (fun _ _ _ h => h) (by rfl) ?hy11b hHeld ?rest11b
            case hy11b =>
              intro w' hSw
              go_simp <;> with_reducible rfl
            try simp only [Act.put, List.setIfInBounds_toArray, List.set_cons_zero, List.set_cons_succ]
            refine wpAnyH_done (by kernel_rfl) ?_ _
            by_cases hq : E1' = 16
            · have hq1 : ((E1' : Int) != 16) = false := by simp [hq]
              obtain rfl : L1' = Lj := f16.out hq
              have hq' := hid hq
              clear hq
              go_wp2_with fail
              go_roundw
              case rel => exact ⟨1, N1', E1', L1', rfl, rfl, by go_num, .inr (.inl ⟨rfl, rfl, hq'.out⟩), HT.out, hKp.out.trans HKt.out⟩
              case measure => simp [intOf]
            · have hq1 : ((E1' : Int) != 16) = true := by simp [hq]
              have hq' := hid hq
              clear hq
              go_wp2_with fail
              go_roundw
              case rel => exact ⟨k + 1, N1', E1', L1', by omega, rfl, rfl, by go_num, fN1.out hq'.out, fE1.out hq'.out, fL1.out hq'.out, HT.out.drop (fun k hk => by simp [hk]), HK0.out.trans (hKp.out.mono (fun k hk => by simp [hk]) |>.trans (HKt.out.mono (fun k hk => by simp [hk])))⟩
              case measure => simp [intOf]; omega
          · clear hj g0
            go_wp2_with fail
            clear g1
            refine wp_region_held_drew (S := fun w' => w'.heap[g]? = some c.o) (by kernel_rfl) CG (fun hHeld => ?_)
            refine take_yes (i := 0) (v := fnV 33) rfl (by kernel_rfl) (by kernel_rfl) (by kernel_rfl) (fun _ _ _ h => h) (by rfl) ?hy0c hHeld ?rest0c
            case hy0c =>
              intro w' hSw
              first | rfl | (go_simp; done)
            try simp only [Act.put, List.setIfInBounds_toArray, List.set_cons_zero, List.set_cons_succ]
            refine take_yes (i := 1) (v := ?v1c) rfl (by kernel_rfl) (by kernel_rfl) (by kernel_rfl) (fun _ _ _ h => h) (by rfl) ?hy1c hHeld ?rest1c
            case hy1c =>
              intro w' hSw
              go_simp <;> with_reducible rfl
            try simp only [Act.put, List.setIfInBounds_toArray, List.set_cons_zero, List.set_cons_succ]
            refine take_yes (i := 2) (v := ?v2c) rfl (by kernel_rfl) (by kernel_rfl) (by kernel_rfl) (fun _ _ _ h => h) (by rfl) ?hy2c hHeld ?rest2c
            case hy2c =>
              intro w' hSw
              go_simp <;> with_reducible rfl
            try simp only [Act.put, List.setIfInBounds_toArray, List.set_cons_zero, List.set_cons_succ]
            refine take_yes (i := 3) (v := ?v3c) rfl (by kernel_rfl) (by kernel_rfl) (by kernel_rfl) (fun _ _ _ h => h) (by rfl) ?hy3c hHeld ?rest3c
            case hy3c =>
              intro w' hSw
              go_simp <;> with_reducible rfl
            try simp only [Act.put, List.setIfInBounds_toArray, List.set_cons_zero, List.set_cons_succ]
            refine take_yes (i := 4) (v := c.v) rfl (by kernel_rfl) (by kernel_rfl) (by kernel_rfl) (fun _ _ _ h => h) (by rfl) (fun w' hSw => exec_load_cm (.tmp 9) rfl rfl hSw) hHeld ?rest4c
            try simp only [Act.put, List.setIfInBounds_toArray, List.set_cons_zero, List.set_cons_succ]
            refine take_yes (i := 5) (v := ?v5c) rfl (by kernel_rfl) (by kernel_rfl) (by kernel_rfl) (fun _ _ _ h => h) (by rfl) ?hy5c hHeld ?rest5c
            case hy5c =>
              intro w' hSw
              go_simp <;> with_reducible rfl
            try simp only [Act.put, List.setIfInBounds_toArray, List.set_cons_zero, List.set_cons_succ]
            refine wpAnyH_ready (rs := [6]) (by kernel_rfl) (by simp) (cons_at (i := 6) rfl (fun K9 hK9 => ?_) AllReadyH.nil)
            go_simp
            go_at_call 33
            with_reducible refine (sq_do (T.out.later (by first | exact Below.refl _ _ | exact (Below.refl _ _).drew)) hcin.out (hci.out h16) hN2' hE2' hL2').mono ?_
            rintro y w6 ⟨rfl, hT, hKt⟩
            have CG6 := hKt.at (g := g) (by simp) CG
            have HT := hid hT
            have HKt := hid hKt
            clear hT hKt
            go_wp2_with fail
            refine hK9.out _ _ CG6 (fun hHeld => ?_)
            clear hK9 K9
            try simp only [Act.put, List.setIfInBounds_toArray, List.set_cons_zero, List.set_cons_succ]
            refine take_yes (i := 7) (v := ?v7c) rfl (by kernel_rfl) (by kernel_rfl) (by kernel_rfl) (fun _ _ _ h => h) (by rfl) ?hy7c hHeld ?rest7c
            case hy7c =>
              intro w' hSw
              go_simp <;> with_reducible rfl
            try simp only [Act.put, List.setIfInBounds_toArray, List.set_cons_zero, List.set_cons_succ]
            refine take_yes (i := 8) (v := ?v8c) rfl (by kernel_rfl) (by kernel_rfl) (by kernel_rfl) (fun _ _ _ h => h) (by rfl) ?hy8c hHeld ?rest8c
            case hy8c =>
              intro w' hSw
              go_simp <;> with_reducible rfl
            try simp only [Act.put, List.setIfInBounds_toArray, List.set_cons_zero, List.set_cons_succ]
            refine take_yes (i := 9) (v := ?v9c) rfl (by kernel_rfl) (by kernel_rfl) (by kernel_rfl) (fun _ _ _ h => h) (by rfl) ?hy9c hHeld ?rest9c
            case hy9c =>
              intro w' hSw
              go_simp <;> with_reducible rfl
            try simp only [Act.put, List.setIfInBounds_toArray, List.set_cons_zero, List.set_cons_succ]
            refine take_yes (i := 10) (v := ?v10c) rfl (by kernel_rfl) (by kernel_rfl) (by kernel_rfl) (fun _ _ _ h => h) (by rfl) ?hy10c hHeld ?rest10c
            case hy10c =>
              intro w' hSw
              go_simp <;> with_reducible rfl
            try simp only [Act.put, List.setIfInBounds_toArray, List.set_cons_zero, List.set_cons_succ]
            refine take_yes (i := 11) (v := ?v11c) rfl (by kernel_rfl) (by kernel_rfl) (by kernel_rfl) (fun _ _ _ h => h) (by rfl) ?hy11c hHeld ?rest11c
            case hy11c =>
              intro w' hSw
              go_simp <;> with_reducible rfl
            try simp only [Act.put, List.setIfInBounds_toArray, List.set_cons_zero, List.set_cons_succ]
            refine wpAnyH_done (by kernel_rfl) ?_ _
            have hq' := hid h16
            clear h16
            by_cases hq : E2' = 16
            · have hq1 : ((E2' : Int) != 16) = false := by simp [hq]
              clear hq
              go_wp2_with fail
              go_roundw
              case rel => exact ⟨2, N2', E2', L2', rfl, rfl, by go_num, .inr (.inr ⟨rfl, rfl, rfl, rfl, hq'.out⟩), HT.out, hKp.out.trans HKt.out⟩
              case measure => simp [intOf]
            · have hq1 : ((E2' : Int) != 16) = true := by simp [hq]
              clear hq
              go_wp2_with fail
              go_roundw
              case rel => exact ⟨k + 1, N2', E2', L2', by omega, rfl, rfl, by go_num, fN2.out hq'.out, fE2.out hq'.out, fL2.out hq'.out, HT.out.drop (fun k hk => by simp [hk]), HK0.out.trans (hKp.out.mono (fun k hk => by simp [hk]) |>.trans (HKt.out.mono (fun k hk => by simp [hk])))⟩
              case measure => simp [intOf]; omega
          · have hq' := hid h16
            have HT := T
            have HKt : Hid (Kept (fb :: g :: K) wr wr) := fun k hk => rfl
            clear h16 hj g0 g1 CG
            go_wp2_with fail
            go_roundw
            case rel => exact ⟨k + 1, _, _, _, by omega, rfl, rfl, by go_num, fN2.out hq'.out, fE2.out hq'.out, fL2.out hq'.out, HT.out.drop (fun k hk => by simp [hk]), HK0.out.trans (hKp.out.mono (fun k hk => by simp [hk]) |>.trans (HKt.out.mono (fun k hk => by simp [hk])))⟩
            case measure => simp [intOf]; omega
      · have hkm' : ¬ (k : Int) < (m : Int) := by omega
        obtain rfl : D = 0 := by rw [← hDh.out, List.getD_eq_getElem?_getD, List.getElem?_eq_none (by rw [hm.out]; omega)]; rfl
        go_upto_region 7 with fail
        go_wp2_with fail
        try rw [hfb'.out]
        try rw [hW7'.out]
        clear hW7' hfb' C3 T3 K3 Q3
        clear hDh
        go_loopw [6, 7, 30] (fun e6 e7 i wr => ∃ (j : Nat) (N2 E2 : Int) (Lj : List Th), e6 = .int .i64 N2 ∧ e7 = .int .i64 E2 ∧ i = .int .i64 (j : Nat) ∧ Hid ((j = 0 ∧ Lj = Lk) ∨ (j = 1 ∧ Lj = Lk ∧ E1' = 16) ∨ (j = 2 ∧ Lj = L2' ∧ N2 = N2' ∧ E2 = E2' ∧ E1' = 16)) ∧ Hid (TK W0 wr wb Lj (fb :: g :: K)) ∧ Hid (Kept (fb :: g :: K) W7 wr)) (fun _ _ i _ => 2 - (intOf i).toNat)
        case atStart => exact ⟨0, _, _, Lk, rfl, rfl, rfl, .inl ⟨rfl, rfl⟩, T7, fun k hk => rfl⟩
        case round =>
          obtain ⟨j, N2, E2, Lj, rfl, rfl, rfl, hj, T, hKp⟩ := hrel
          have CG : _ := hKp.out.at (g := g) (by simp) C7.out
          have FG := cells_at (hKp.out.at (g := fb) (by simp) F7.out)
          have g0 : wr.cell? ⟨fb, 0, none⟩ = some (fnV 32) := FG.1 0
          have g1 : wr.cell? ⟨fb, 1, none⟩ = some (fnV 33) := FG.1 1
          clear FG
          rcases hj.out with ⟨rfl, rfl⟩ | ⟨rfl, rfl, h16⟩ | ⟨rfl, rfl, rfl, rfl, h16⟩
          · clear hj g1
            go_wp2_with fail
            clear g0
            refine wp_region_held_drew (S := fun w' => w'.heap[g]? = some c.o) (by kernel_rfl) CG (fun hHeld => ?_)
            refine take_yes (i := 0) (v := fnV 32) rfl (by kernel_rfl) (by kernel_rfl) (by kernel_rfl) (fun _ _ _ h => h) (by rfl) ?hy0d hHeld ?rest0d
            case hy0d =>
              intro w' hSw
              first | rfl | (go_simp; done)
            try simp only [Act.put, List.setIfInBounds_toArray, List.set_cons_zero, List.set_cons_succ]
            refine take_yes (i := 1) (v := ?v1d) rfl (by kernel_rfl) (by kernel_rfl) (by kernel_rfl) (fun _ _ _ h => h) (by rfl) ?hy1d hHeld ?rest1d
            case hy1d =>
              intro w' hSw
              go_simp <;> with_reducible rfl
            try simp only [Act.put, List.setIfInBounds_toArray, List.set_cons_zero, List.set_cons_succ]
            refine take_yes (i := 2) (v := ?v2d) rfl (by kernel_rfl) (by kernel_rfl) (by kernel_rfl) (fun _ _ _ h => h) (by rfl) ?hy2d hHeld ?rest2d
            case hy2d =>
              intro w' hSw
              go_simp <;> with_reducible rfl
            try simp only [Act.put, List.setIfInBounds_toArray, List.set_cons_zero, List.set_cons_succ]
            refine take_yes (i := 3) (v := ?v3d) rfl (by kernel_rfl) (by kernel_rfl) (by kernel_rfl) (fun _ _ _ h => h) (by rfl) ?hy3d hHeld ?rest3d
            case hy3d =>
              intro w' hSw
              go_simp <;> with_reducible rfl
            try simp only [Act.put, List.setIfInBounds_toArray, List.set_cons_zero, List.set_cons_succ]
            refine take_yes (i := 4) (v := c.v) rfl (by kernel_rfl) (by kernel_rfl) (by kernel_rfl) (fun _ _ _ h => h) (by rfl) (fun w' hSw => exec_load_cm (.tmp 9) rfl rfl hSw) hHeld ?rest4d
            try simp only [Act.put, List.setIfInBounds_toArray, List.set_cons_zero, List.set_cons_succ]
            refine take_yes (i := 5) (v := ?v5d) rfl (by kernel_rfl) (by kernel_rfl) (by kernel_rfl) (fun _ _ _ h => h) (by rfl) ?hy5d hHeld ?rest5d
            case hy5d =>
              intro w' hSw
              go_simp <;> with_reducible rfl
            try simp only [Act.put, List.setIfInBounds_toArray, List.set_cons_zero, List.set_cons_succ]
            refine wpAnyH_ready (rs := [6]) (by kernel_rfl) (by simp) (cons_at (i := 6) rfl (fun K9 hK9 => ?_) AllReadyH.nil)
            go_simp
            go_at_call 32
            with_reducible refine (act_do (T.out.later (by first | exact Below.refl _ _ | exact (Below.refl _ _).drew)) hcin.out hDI'.out hN1' hE1' hL1').mono ?_
            rintro y w6 ⟨rfl, hT, hKt⟩
            have CG6 := hKt.at (g := g) (by simp) CG
            have HT := hid hT
            have HKt := hid hKt
            clear hT hKt
            go_wp2_with fail
            refine hK9.out _ _ CG6 (fun hHeld => ?_)
            clear hK9 K9
            try simp only [Act.put, List.setIfInBounds_toArray, List.set_cons_zero, List.set_cons_succ]
            refine take_yes (i := 7) (v := ?v7d) rfl (by kernel_rfl) (by kernel_rfl) (by kernel_rfl) (fun _ _ _ h => h) (by rfl) ?hy7d hHeld ?rest7d
            case hy7d =>
              intro w' hSw
              go_simp <;> with_reducible rfl
            try simp only [Act.put, List.setIfInBounds_toArray, List.set_cons_zero, List.set_cons_succ]
            refine take_yes (i := 8) (v := ?v8d) rfl (by kernel_rfl) (by kernel_rfl) (by kernel_rfl) (fun _ _ _ h => h) (by rfl) ?hy8d hHeld ?rest8d
            case hy8d =>
              intro w' hSw
              go_simp <;> with_reducible rfl
            try simp only [Act.put, List.setIfInBounds_toArray, List.set_cons_zero, List.set_cons_succ]
            refine take_yes (i := 9) (v := ?v9d) rfl (by kernel_rfl) (by kernel_rfl) (by kernel_rfl) (fun _ _ _ h => h) (by rfl) ?hy9d hHeld ?rest9d
            case hy9d =>
              intro w' hSw
              go_simp <;> with_reducible rfl
            try simp only [Act.put, List.setIfInBounds_toArray, List.set_cons_zero, List.set_cons_succ]
            refine take_yes (i := 10) (v := ?v10d) rfl (by kernel_rfl) (by kernel_rfl) (by kernel_rfl) (fun _ _ _ h => h) (by rfl) ?hy10d hHeld ?rest10d
            case hy10d =>
              intro w' hSw
              go_simp <;> with_reducible rfl
            try simp only [Act.put, List.setIfInBounds_toArray, List.set_cons_zero, List.set_cons_succ]
            refine take_yes (i := 11) (v := ?v11d) rfl (by kernel_rfl) (by kernel_rfl) (by kernel_rfl) (fun _ _ _ h => h) (by rfl) ?hy11d hHeld ?rest11d
            case hy11d =>
              intro w' hSw
              go_simp <;> with_reducible rfl
            try simp only [Act.put, List.setIfInBounds_toArray, List.set_cons_zero, List.set_cons_succ]
            refine wpAnyH_done (by kernel_rfl) ?_ _
            by_cases hq : E1' = 16
            · have hq1 : ((E1' : Int) != 16) = false := by simp [hq]
              obtain rfl : L1' = Lj := f16.out hq
              have hq' := hid hq
              clear hq
              go_wp2_with fail
              go_roundw
              case rel => exact ⟨1, N1', E1', L1', rfl, rfl, by go_num, .inr (.inl ⟨rfl, rfl, hq'.out⟩), HT.out, hKp.out.trans HKt.out⟩
              case measure => simp [intOf]
            · have hq1 : ((E1' : Int) != 16) = true := by simp [hq]
              have hq' := hid hq
              clear hq
              go_wp2_with fail
              go_roundw
              case rel => exact ⟨k + 1, N1', E1', L1', by omega, rfl, rfl, by go_num, fN1.out hq'.out, fE1.out hq'.out, fL1.out hq'.out, HT.out.drop (fun k hk => by simp [hk]), HK0.out.trans (hKp.out.mono (fun k hk => by simp [hk]) |>.trans (HKt.out.mono (fun k hk => by simp [hk])))⟩
              case measure => simp [intOf]; omega
          · clear hj g0
            go_wp2_with fail
            clear g1
            refine wp_region_held_drew (S := fun w' => w'.heap[g]? = some c.o) (by kernel_rfl) CG (fun hHeld => ?_)
            refine take_yes (i := 0) (v := fnV 33) rfl (by kernel_rfl) (by kernel_rfl) (by kernel_rfl) (fun _ _ _ h => h) (by rfl) ?hy0e hHeld ?rest0e
            case hy0e =>
              intro w' hSw
              first | rfl | (go_simp; done)
            try simp only [Act.put, List.setIfInBounds_toArray, List.set_cons_zero, List.set_cons_succ]
            refine take_yes (i := 1) (v := ?v1e) rfl (by kernel_rfl) (by kernel_rfl) (by kernel_rfl) (fun _ _ _ h => h) (by rfl) ?hy1e hHeld ?rest1e
            case hy1e =>
              intro w' hSw
              go_simp <;> with_reducible rfl
            try simp only [Act.put, List.setIfInBounds_toArray, List.set_cons_zero, List.set_cons_succ]
            refine take_yes (i := 2) (v := ?v2e) rfl (by kernel_rfl) (by kernel_rfl) (by kernel_rfl) (fun _ _ _ h => h) (by rfl) ?hy2e hHeld ?rest2e
            case hy2e =>
              intro w' hSw
              go_simp <;> with_reducible rfl
            try simp only [Act.put, List.setIfInBounds_toArray, List.set_cons_zero, List.set_cons_succ]
            refine take_yes (i := 3) (v := ?v3e) rfl (by kernel_rfl) (by kernel_rfl) (by kernel_rfl) (fun _ _ _ h => h) (by rfl) ?hy3e hHeld ?rest3e
            case hy3e =>
              intro w' hSw
              go_simp <;> with_reducible rfl
            try simp only [Act.put, List.setIfInBounds_toArray, List.set_cons_zero, List.set_cons_succ]
            refine take_yes (i := 4) (v := c.v) rfl (by kernel_rfl) (by kernel_rfl) (by kernel_rfl) (fun _ _ _ h => h) (by rfl) (fun w' hSw => exec_load_cm (.tmp 9) rfl rfl hSw) hHeld ?rest4e
            try simp only [Act.put, List.setIfInBounds_toArray, List.set_cons_zero, List.set_cons_succ]
            refine take_yes (i := 5) (v := ?v5e) rfl (by kernel_rfl) (by kernel_rfl) (by kernel_rfl) (fun _ _ _ h => h) (by rfl) ?hy5e hHeld ?rest5e
            case hy5e =>
              intro w' hSw
              go_simp <;> with_reducible rfl
            try simp only [Act.put, List.setIfInBounds_toArray, List.set_cons_zero, List.set_cons_succ]
            refine wpAnyH_ready (rs := [6]) (by kernel_rfl) (by simp) (cons_at (i := 6) rfl (fun K9 hK9 => ?_) AllReadyH.nil)
            go_simp
            go_at_call 33
            with_reducible refine (sq_do (T.out.later (by first | exact Below.refl _ _ | exact (Below.refl _ _).drew)) hcin.out (hci.out h16) hN2' hE2' hL2').mono ?_
            rintro y w6 ⟨rfl, hT, hKt⟩
            have CG6 := hKt.at (g := g) (by simp) CG
            have HT := hid hT
            have HKt := hid hKt
            clear hT hKt
            go_wp2_with fail
            refine hK9.out _ _ CG6 (fun hHeld => ?_)
            clear hK9 K9
            try simp only [Act.put, List.setIfInBounds_toArray, List.set_cons_zero, List.set_cons_succ]
            refine take_yes (i := 7) (v := ?v7e) rfl (by kernel_rfl) (by kernel_rfl) (by kernel_rfl) (fun _ _ _ h => h) (by rfl) ?hy7e hHeld ?rest7e
            case hy7e =>
              intro w' hSw
              go_simp <;> with_reducible rfl
            try simp only [Act.put, List.setIfInBounds_toArray, List.set_cons_zero, List.set_cons_succ]
            refine take_yes (i := 8) (v := ?v8e) rfl (by kernel_rfl) (by kernel_rfl) (by kernel_rfl) (fun _ _ _ h => h) (by rfl) ?hy8e hHeld ?rest8e
            case hy8e =>
              intro w' hSw
              go_simp <;> with_reducible rfl
            try simp only [Act.put, List.setIfInBounds_toArray, List.set_cons_zero, List.set_cons_succ]
            refine take_yes (i := 9) (v := ?v9e) rfl (by kernel_rfl) (by kernel_rfl) (by kernel_rfl) (fun _ _ _ h => h) (by rfl) ?hy9e hHeld ?rest9e
            case hy9e =>
              intro w' hSw
              go_simp <;> with_reducible rfl
            try simp only [Act.put, List.setIfInBounds_toArray, List.set_cons_zero, List.set_cons_succ]
            refine take_yes (i := 10) (v := ?v10e) rfl (by kernel_rfl) (by kernel_rfl) (by kernel_rfl) (fun _ _ _ h => h) (by rfl) ?hy10e hHeld ?rest10e
            case hy10e =>
              intro w' hSw
              go_simp <;> with_reducible rfl
            try simp only [Act.put, List.setIfInBounds_toArray, List.set_cons_zero, List.set_cons_succ]
            refine take_yes (i := 11) (v := ?v11e) rfl (by kernel_rfl) (by kernel_rfl) (by kernel_rfl) (fun _ _ _ h => h) (by rfl) ?hy11e hHeld ?rest11e
            case hy11e =>
              intro w' hSw
              go_simp <;> with_reducible rfl
            try simp only [Act.put, List.setIfInBounds_toArray, List.set_cons_zero, List.set_cons_succ]
            refine wpAnyH_done (by kernel_rfl) ?_ _
            have hq' := hid h16
            clear h16
            by_cases hq : E2' = 16
            · have hq1 : ((E2' : Int) != 16) = false := by simp [hq]
              clear hq
              go_wp2_with fail
              go_roundw
              case rel => exact ⟨2, N2', E2', L2', rfl, rfl, by go_num, .inr (.inr ⟨rfl, rfl, rfl, rfl, hq'.out⟩), HT.out, hKp.out.trans HKt.out⟩
              case measure => simp [intOf]
            · have hq1 : ((E2' : Int) != 16) = true := by simp [hq]
              clear hq
              go_wp2_with fail
              go_roundw
              case rel => exact ⟨k + 1, N2', E2', L2', by omega, rfl, rfl, by go_num, fN2.out hq'.out, fE2.out hq'.out, fL2.out hq'.out, HT.out.drop (fun k hk => by simp [hk]), HK0.out.trans (hKp.out.mono (fun k hk => by simp [hk]) |>.trans (HKt.out.mono (fun k hk => by simp [hk])))⟩
              case measure => simp [intOf]; omega
          · have hq' := hid h16
            have HT := T
            have HKt : Hid (Kept (fb :: g :: K) wr wr) := fun k hk => rfl
            clear h16 hj g0 g1 CG
            go_wp2_with fail
            go_roundw
            case rel => exact ⟨k + 1, _, _, _, by omega, rfl, rfl, by go_num, fN2.out hq'.out, fE2.out hq'.out, fL2.out hq'.out, HT.out.drop (fun k hk => by simp [hk]), HK0.out.trans (hKp.out.mono (fun k hk => by simp [hk]) |>.trans (HKt.out.mono (fun k hk => by simp [hk])))⟩
            case measure => simp [intOf]; omega
    · obtain rfl : k = n := by omega
      have hlt' : ¬ (k : Int) < (k : Int) := by omega
      obtain rfl : N1 = N := hN1.out.symm.trans hN.out
      obtain rfl : E1 = E := hE1.out.symm.trans hE.out
      obtain rfl : Lk = L' := hLk.out.symm.trans hL.out
      go_wp2_with fail
      exact bodyPost_ret (v := .tuple #[.int .i64 N1, .int .i64 E1]) (by simp [results, Tryz.results21, go_sem]) rfl ⟨rfl, HTk.out, HKk.out⟩
end Go.Proofs.YtfoncphdbaaedaaGreatDoor
