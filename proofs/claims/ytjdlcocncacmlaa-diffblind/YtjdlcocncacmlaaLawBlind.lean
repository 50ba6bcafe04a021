/- DiffBlind holds: of rows of things that rise, who saw nothing and sees all is told all that there is as entering, who saw all and sees nothing all that there was as leaving; nothing to nothing tells nothing; all are seen in the whole map. -/
import Derived.Test.YtjdlcocncacmlaaKnown16
import Derived.ProofKit
import Derived.OpenShut
import Derived.ShutString
import Derived.ChangeOld
import Derived.Below
import Derived.SizedLaws
namespace Go.Proofs.Ytjdlcocncacmlaa
open Go.ChangeShapes Go.WideShapes Go.ChangeAt Go.RowKit
open Go.ChangeMaps (open_string shut_string)
set_option linter.unusedVariables false

set_option maxRecDepth 100000 in
set_option maxHeartbeats 8000000 in
theorem diffBlind_walk (w : World) (a0 : Option Addr) (cap0 : Nat) (L0 : List Th) (i0 : ∀ t ∈ L0, inT t) (r0 : RowT w a0 L0) (c0 : L0.length ≤ cap0) (m0 : cap0 ≤ maxLen) (a1 : Option Addr) (cap1 : Nat) (L1 : List Th) (i1 : ∀ t ∈ L1, inT t) (r1 : RowT w a1 L1) (c1 : L1.length ≤ cap1) (m1 : cap1 ≤ maxLen) (a20 a21 a22 a23 : Int) :
    Calls Try.prog 7 #[.slice a0 L0.length cap0, .slice a1 L1.length cap1, rc a20 a21 a22 a23] w fun e w' => e = .returned (.bool true) ∧ Below w.heap.size w w' := by
  obtain ⟨ti, hti, hz0, hz1, hz2⟩ := info_parts3 Try.infoEv
  obtain ⟨n0, hn0⟩ : ∃ n, Hid (L0.length = n) := ⟨_, rfl⟩
  obtain ⟨n1, hn1⟩ : ∃ n, Hid (L1.length = n) := ⟨_, rfl⟩
  obtain ⟨f0, hf0⟩ : ∃ q, Hid (fewL L0 = q) := ⟨_, rfl⟩
  obtain ⟨q0, hg0⟩ : ∃ q, Hid (good L0 = q) := ⟨_, rfl⟩
  have m0' : n0 ≤ maxLen := by rw [← hn0.out]; omega
  have k0 : n0 ≤ 9223372036854775807 := by unfold maxLen at m0'; omega
  have d0 : n0 ≤ cap0 := by rw [← hn0.out]; exact c0
  have I0 := hid i0
  obtain ⟨f1, hf1⟩ : ∃ q, Hid (fewL L1 = q) := ⟨_, rfl⟩
  obtain ⟨q1, hg1⟩ : ∃ q, Hid (good L1 = q) := ⟨_, rfl⟩
  have m1' : n1 ≤ maxLen := by rw [← hn1.out]; omega
  have k1 : n1 ≤ 9223372036854775807 := by unfold maxLen at m1'; omega
  have d1 : n1 ≤ cap1 := by rw [← hn1.out]; exact c1
  have I1 := hid i1
  obtain ⟨rp, rfl, rfl, rfl, rfl⟩ : ∃ r : Rc, r.x0 = a20 ∧ r.y0 = a21 ∧ r.x1 = a22 ∧ r.y1 = a23 := ⟨⟨a20, a21, a22, a23⟩, rfl, rfl, rfl, rfl⟩
  obtain ⟨W0, hW0⟩ : ∃ W0, w.alloc (rcO rp.x0 rp.y0 rp.x1 rp.y1) = W0 := ⟨_, rfl⟩
  have hE : Below w.heap.size w W0 := by rw [← hW0]; exact below1 _ _
  have K := hid (show W0.heap[w.heap.size]? = some (rcO rp.x0 rp.y0 rp.x1 rp.y1) by rw [← hW0]; exact new_at _ _ _ rfl)
  have R0 := hid (r0.later hE)
  have R1 := hid (r1.later hE)
  rw [hn0.out, hn1.out]
  clear c0 m0 r0 i0 c1 m1 r1 i1
  obtain ⟨g0, hg0'⟩ : ∃ g, Hid (w.heap.size = g) := ⟨_, rfl⟩
  obtain ⟨Q, hQ⟩ : ∃ Q : Ending → World → Prop, Hid ((fun e w' => e = .returned (.bool true) ∧ Below w.heap.size w w') = Q) := ⟨_, rfl⟩
  rw [hQ.out]
  go_enter Try.func7, Try.ntmps7
  go_upto_region 1 with fail
  try rw [hW0]
  clear hW0
  rw [hg0'.out] at K ⊢
  have hE0 := hid hE
  clear hE
  have SC : ∀ wx : World, Below W0.heap.size W0 wx → (wx.cell? ⟨g0, 0, none⟩ = some (.int .i64 rp.x0) ∧ wx.cell? ⟨g0, 1, none⟩ = some (.int .i64 rp.y0) ∧ wx.cell? ⟨g0, 2, none⟩ = some (.int .i64 rp.x1) ∧ wx.cell? ⟨g0, 3, none⟩ = some (.int .i64 rp.y1)) := fun wx hx => by
    have c := (cells_at (var_on hx K.out (at_lt K.out))).1
    exact ⟨c 0, c 1, c 2, c 3⟩
  go_wp2_with fail
  refine (known_holds _).mono ?_
  rintro x v1 ⟨rfl, hB⟩
  go_wp2_with fail
  refine (few_at16 hf0 hn0 (R0.out.later hB) I0.out m0').mono ?_
  rintro x v2 ⟨rfl, hb⟩
  replace hB := below_on hB hb
  clear hb
  cases f0
  · go_wp2_with fail
    rw [← hQ.out]
    exact ⟨rfl, below_on hE0.out hB⟩
  go_wp2_with fail
  refine (few_at16 hf1 hn1 (R1.out.later hB) I1.out m1').mono ?_
  rintro x v3 ⟨rfl, hb⟩
  replace hB := below_on hB hb
  clear hb
  cases f1
  · go_wp2_with fail
    rw [← hQ.out]
    exact ⟨rfl, below_on hE0.out hB⟩
  go_wp2_with fail
  refine (law_rising _ _ _ _ _ _ hg0 hn0 (R0.out.later hB) I0.out m0').mono ?_
  rintro x v4 ⟨rfl, hb⟩
  replace hB := below_on hB hb
  clear hb
  cases q0
  · go_wp2_with fail
    rw [← hQ.out]
    exact ⟨rfl, below_on hE0.out hB⟩
  go_wp2_with fail
  refine (law_rising _ _ _ _ _ _ hg1 hn1 (R1.out.later hB) I1.out m1').mono ?_
  rintro x v5 ⟨rfl, hb⟩
  replace hB := below_on hB hb
  clear hb
  cases q1
  · go_wp2_with fail
    rw [← hQ.out]
    exact ⟨rfl, below_on hE0.out hB⟩
  have h30 := fewL_len16 hf0.out hn0.out
  have G0 := hid (good_goodR hg0.out I0.out)
  have h31 := fewL_len16 hf1.out hn1.out
  have G1 := hid (good_goodR hg1.out I1.out)
  clear hf0 hg0 hf1 hg1
  obtain ⟨V, hV⟩ : ∃ V, v5.alloc (rcO 0 0 64 64) = V := ⟨_, rfl⟩
  have hBV : Below W0.heap.size W0 V := by rw [← hV]; exact hB.alloc hB.size _
  have KV := hid (show V.heap[v5.heap.size]? = some (rcO 0 0 64 64) by rw [← hV]; exact new_at _ _ _ rfl)
  obtain ⟨ga, hga⟩ : ∃ g, Hid (v5.heap.size = g) := ⟨_, rfl⟩
  have M1 := hid (show doO (seenL ⟨0, 0, 0, 0⟩ L0) (seenL ⟨0, 0, 64, 64⟩ L1) = L1.map enE by rw [seen_none, seen_all G1.out.is, doO_nil_l])
  have M2 := hid (show doO (seenL ⟨0, 0, 64, 64⟩ L0) (seenL ⟨0, 0, 0, 0⟩ L1) = L0.map leE by rw [seen_none, seen_all G0.out.is, doO_nil_r])
  have M3 := hid (show doO (seenL ⟨0, 0, 0, 0⟩ L0) (seenL ⟨0, 0, 0, 0⟩ L1) = [] by rw [seen_none, seen_none, doO_n])
  have M4 := hid (show seenL ⟨0, 0, 64, 64⟩ L0 = L0 from seen_all G0.out.is)
  have N1 := hid (show (L1.map enE).length = n1 by rw [List.length_map]; exact hn1.out)
  have N2 := hid (show (L0.map leE).length = n0 by rw [List.length_map]; exact hn0.out)
  have N3 := hid (show ([] : List Ev).length = 0 from rfl)
  have C1 : ∀ x : World, Below W0.heap.size W0 x → Calls Try.prog 12 #[.slice a0 n0 cap0, rc 0 0 0 0, .slice a1 n1 cap1, rc 0 0 64 64] x (OfPost x (L1.map enE) n1) := fun x h => diff_of (r := ⟨0, 0, 0, 0⟩) (r' := ⟨0, 0, 64, 64⟩) (R0.out.later h) (R1.out.later h) hn0 hn1 (by omega) (by omega) M1 N1
  have C2 : ∀ x : World, Below W0.heap.size W0 x → Calls Try.prog 12 #[.slice a0 n0 cap0, rc 0 0 64 64, .slice a1 n1 cap1, rc 0 0 0 0] x (OfPost x (L0.map leE) n0) := fun x h => diff_of (r := ⟨0, 0, 64, 64⟩) (r' := ⟨0, 0, 0, 0⟩) (R0.out.later h) (R1.out.later h) hn0 hn1 (by omega) (by omega) M2 N2
  have C3 : ∀ x : World, Below W0.heap.size W0 x → Calls Try.prog 12 #[.slice a0 n0 cap0, rc 0 0 0 0, .slice a1 n1 cap1, rc 0 0 0 0] x (OfPost x [] 0) := fun x h => diff_of (r := ⟨0, 0, 0, 0⟩) (r' := ⟨0, 0, 0, 0⟩) (R0.out.later h) (R1.out.later h) hn0 hn1 (by omega) (by omega) M3 N3
  have C4 : ∀ x : World, Below W0.heap.size W0 x → Calls Try.prog 15 #[.slice a0 n0 cap0, rc 0 0 64 64] x (SeenPost x L0 n0) := fun x h => diff_seen (r := ⟨0, 0, 64, 64⟩) (R0.out.later h) hn0 (by omega) M4 hn0
  clear SC
  go_upto_region 6 with fail
  try rw [hV]
  clear hV hB
  rw [hga.out] at KV ⊢
  have SC : ∀ wx : World, Below V.heap.size V wx → (wx.cell? ⟨ga, 0, none⟩ = some (.int .i64 0) ∧ wx.cell? ⟨ga, 1, none⟩ = some (.int .i64 0) ∧ wx.cell? ⟨ga, 2, none⟩ = some (.int .i64 64) ∧ wx.cell? ⟨ga, 3, none⟩ = some (.int .i64 64)) := fun wx hx => by
    have c := (cells_at (var_on hx KV.out (at_lt KV.out))).1
    exact ⟨c 0, c 1, c 2, c 3⟩
  have SV := SC _ (Below.refl _ _)
  obtain ⟨s0, s1, s2, s3⟩ := SV
  go_wp2_with fail
  refine (C1 _ hBV).mono ?_
  rintro x v7 ⟨p7, c7, rfl, ho7, hb7⟩
  have E7 := hid (rowE_own ho7 N1.out.symm)
  have hB7 := below_on hBV hb7
  have hV7 := hb7
  have SV := SC _ hb7
  clear ho7 hb7 hBV s0 s1 s2 s3
  obtain ⟨s0, s1, s2, s3⟩ := SV
  go_wp2_with fail
  refine (C2 _ hB7).mono ?_
  rintro x v8 ⟨p8, c8, rfl, ho8, hb8⟩
  have E8 := hid (rowE_own ho8 N2.out.symm)
  have E7b := hid (E7.out.later hb8)
  have hB8 := below_on hB7 hb8
  have hV8 := below_on hV7 hb8
  clear ho8 hb8 hB7 hV7 E7 s0 s1 s2 s3
  have hne : ∀ k : Nat, ((k : Int) != (k : Int)) = false := fun k => by simp
  go_wp2_with fail
  refine (C3 _ hB8).mono ?_
  rintro x v9 ⟨p9, c9, rfl, -, hb9⟩
  have E8c := hid (E8.out.later hb9)
  have E7c := hid (E7b.out.later hb9)
  have hB9 := hid (below_on hB8 hb9)
  have hV9 := hid (below_on hV8 hb9)
  have R1c := hid (R1.out.later hB9.out)
  have R0c := hid (R0.out.later hB9.out)
  clear hb9 hB8 hV8 E8 E7b C1 C2 C3 M1 M2 M3
  go_wp2_with fail
  go_loopw [10] (fun s10 wr => ∃ k : Nat, k ≤ n1 ∧ s10 = .int .i64 (k : Nat) ∧ Below v9.heap.size v9 wr) (fun s10 _ => n1 - (intOf s10).toNat)
  case atStart => exact ⟨0, by omega, rfl, Below.refl _ _⟩
  case round =>
    obtain ⟨k, hk, rfl, hb⟩ := hrel
    by_cases hlt : k < n1
    · have hlt' : (k : Int) < (n1 : Int) := by omega
      obtain ⟨t, ht⟩ := get_th L1 k (by rw [hn1.out]; exact hlt)
      have he : (L1.map enE)[k]? = some (enE t) := by rw [List.getElem?_map, ht]; rfl
      obtain ⟨b, off, hp7, hc⟩ := E7c.out.at he
      subst hp7
      obtain ⟨b1, off1, hp1, hc1⟩ := R1c.out.at ht
      subst hp1
      have hcT : v9.rangeAt b (off + k * 25 + 2) t.cs := fun j u hv => by
        have hj : j < 11 := by have := (List.getElem?_eq_some_iff.1 hv).1; exact this
        have := hc (2 + j) u (by
          have e : (enE t).cs = [.int .i64 1, .int .i64 t.id] ++ (t.cs ++ (Dl.cs zD)) := rfl
          rw [e, List.getElem?_append_right (by simp)]
          rw [List.getElem?_append_left (by simp [Th.cs]; omega)]
          simpa using hv)
        rw [show off + k * 25 + 2 + j = off + k * 25 + (2 + j) by omega]
        exact this
      have SB : ∀ wx : World, Below v9.heap.size v9 wx → (Below v9.heap.size v9 wx ∧ wx.cell? ⟨b, off + k * 25, none⟩ = some (.int .i64 1) ∧ wx.rangeAt b (off + k * 25 + 2) t.cs ∧ wx.rangeAt b1 (off1 + k * 11) t.cs) := fun wx hx => ⟨hx, (range_on hc hx) 0 _ rfl, range_on hcT hx, range_on (range_th hc1) hx⟩
      have EQ : ∀ W : World, (Op.equalIn 10000 40 t.v t.v).run Try.prog W = .ok true W := fun W => equal_th_at (eqT_self t) W
      clear ht he hc hc1 hcT
      go_upto_region 13 with fail
      refine wp_region_held_drew (S := fun w' => Below v9.heap.size v9 w' ∧ w'.cell? ⟨b, off + k * 25, none⟩ = some (.int .i64 1) ∧ w'.rangeAt b (off + k * 25 + 2) t.cs ∧ w'.rangeAt b1 (off1 + k * 11) t.cs) (by kernel_rfl) (SB _ hb.drew) (fun hHeld => ?_)
      refine take_yes (i := 0) (v := ?v0a) rfl (by kernel_rfl) (by kernel_rfl) (by kernel_rfl) (fun _ _ _ h => h) (by rfl) ?hy0a hHeld ?rest0a
      case hy0a =>
        intro w' hSw
        obtain ⟨-, s0, -⟩ := hSw
        go_simp <;> with_reducible rfl
      try simp only [Act.put, List.setIfInBounds_toArray, List.set_cons_zero, List.set_cons_succ]
      refine take_yes (i := 1) (v := ?v1a) rfl (by kernel_rfl) (by kernel_rfl) (by kernel_rfl) (fun _ _ _ h => h) (by rfl) ?hy1a hHeld ?rest1a
      case hy1a =>
        intro w' hSw
        obtain ⟨-, s0, -⟩ := hSw
        go_simp <;> with_reducible rfl
      try simp only [Act.put, List.setIfInBounds_toArray, List.set_cons_zero, List.set_cons_succ]
      refine take_yes (i := 2) (v := ?v2a) rfl (by kernel_rfl) (by kernel_rfl) (by kernel_rfl) (fun _ _ _ h => h) (by rfl) ?hy2a hHeld ?rest2a
      case hy2a =>
        intro w' hSw
        obtain ⟨-, s0, -⟩ := hSw
        go_simp <;> with_reducible rfl
      try simp only [Act.put, List.setIfInBounds_toArray, List.set_cons_zero, List.set_cons_succ]
      refine take_yes (i := 3) (v := ?v3a) rfl (by kernel_rfl) (by kernel_rfl) (by kernel_rfl) (fun _ _ _ h => h) (by rfl) ?hy3a hHeld ?rest3a
      case hy3a =>
        intro w' hSw
        obtain ⟨-, s0, -⟩ := hSw
        go_simp <;> with_reducible rfl
      try simp only [Act.put, List.setIfInBounds_toArray, List.set_cons_zero, List.set_cons_succ]
      refine take_yes (i := 4) (v := ?v4a) rfl (by kernel_rfl) (by kernel_rfl) (by kernel_rfl) (fun _ _ _ h => h) (by rfl) ?hy4a hHeld ?rest4a
      case hy4a =>
        intro w' hSw
        obtain ⟨-, s0, -⟩ := hSw
        go_simp <;> with_reducible rfl
      try simp only [Act.put, List.setIfInBounds_toArray, List.set_cons_zero, List.set_cons_succ]
      refine take_yes (i := 5) (v := ?v5a) rfl (by kernel_rfl) (by kernel_rfl) (by kernel_rfl) (fun _ _ _ h => h) (by rfl) ?hy5a hHeld ?rest5a
      case hy5a =>
        intro w' hSw
        obtain ⟨-, s0, -⟩ := hSw
        go_simp <;> with_reducible rfl
      try simp only [Act.put, List.setIfInBounds_toArray, List.set_cons_zero, List.set_cons_succ]
      refine take_yes (i := 6) (v := ?v6a) rfl (by kernel_rfl) (by kernel_rfl) (by kernel_rfl) (fun _ _ _ h => h) (by rfl) ?hy6a hHeld ?rest6a
      case hy6a =>
        intro w' hSw
        obtain ⟨-, s0, -⟩ := hSw
        go_simp <;> with_reducible rfl
      try simp only [Act.put, List.setIfInBounds_toArray, List.set_cons_zero, List.set_cons_succ]
      refine take_yes (i := 7) (v := ?v7a) rfl (by kernel_rfl) (by kernel_rfl) (by kernel_rfl) (fun _ _ _ h => h) (by rfl) ?hy7a hHeld ?rest7a
      case hy7a =>
        intro w' hSw
        obtain ⟨-, s0, -⟩ := hSw
        go_simp <;> with_reducible rfl
      try simp only [Act.put, List.setIfInBounds_toArray, List.set_cons_zero, List.set_cons_succ]
      refine take_yes (i := 8) (v := ?v8a) rfl (by kernel_rfl) (by kernel_rfl) (by kernel_rfl) (fun _ _ _ h => h) (by rfl) ?hy8a hHeld ?rest8a
      case hy8a =>
        intro w' hSw
        obtain ⟨-, s0, -⟩ := hSw
        go_simp <;> with_reducible rfl
      try simp only [Act.put, List.setIfInBounds_toArray, List.set_cons_zero, List.set_cons_succ]
      refine take_yes (i := 9) (v := ?v9a) rfl (by kernel_rfl) (by kernel_rfl) (by kernel_rfl) (fun _ _ _ h => h) (by rfl) ?hy9a hHeld ?rest9a
      case hy9a =>
        intro w' hSw
        obtain ⟨-, s0, -⟩ := hSw
        go_simp <;> with_reducible rfl
      try simp only [Act.put, List.setIfInBounds_toArray, List.set_cons_zero, List.set_cons_succ]
      refine take_yes (i := 10) (v := ?v10a) rfl (by kernel_rfl) (by kernel_rfl) (by kernel_rfl) (fun _ _ _ h => h) (by rfl) ?hy10a hHeld ?rest10a
      case hy10a =>
        intro w' hSw
        obtain ⟨-, s0, -⟩ := hSw
        go_simp <;> with_reducible rfl
      try simp only [Act.put, List.setIfInBounds_toArray, List.set_cons_zero, List.set_cons_succ]
      refine take_yes (i := 11) (v := _) rfl (by kernel_rfl) (by kernel_rfl) (by kernel_rfl) (fun _ _ _ h => h) (by rfl) (fun w' hSw => exec_load_mid_th (.tmp 80) rfl rfl hSw.2.2.1) hHeld ?rest11a
      try simp only [Act.put, List.setIfInBounds_toArray, List.set_cons_zero, List.set_cons_succ]
      refine take_yes (i := 12) (v := ?v12a) rfl (by kernel_rfl) (by kernel_rfl) (by kernel_rfl) (fun _ _ _ h => h) (by rfl) ?hy12a hHeld ?rest12a
      case hy12a =>
        intro w' hSw
        obtain ⟨-, s0, -⟩ := hSw
        go_simp <;> with_reducible rfl
      try simp only [Act.put, List.setIfInBounds_toArray, List.set_cons_zero, List.set_cons_succ]
      refine take_yes (i := 13) (v := ?v13a) rfl (by kernel_rfl) (by kernel_rfl) (by kernel_rfl) (fun _ _ _ h => h) (by rfl) ?hy13a hHeld ?rest13a
      case hy13a =>
        intro w' hSw
        obtain ⟨-, s0, -⟩ := hSw
        go_simp <;> with_reducible rfl
      try simp only [Act.put, List.setIfInBounds_toArray, List.set_cons_zero, List.set_cons_succ]
      refine take_yes (i := 14) (v := ?v14a) rfl (by kernel_rfl) (by kernel_rfl) (by kernel_rfl) (fun _ _ _ h => h) (by rfl) ?hy14a hHeld ?rest14a
      case hy14a =>
        intro w' hSw
        obtain ⟨-, s0, -⟩ := hSw
        go_simp <;> with_reducible rfl
      try simp only [Act.put, List.setIfInBounds_toArray, List.set_cons_zero, List.set_cons_succ]
      refine take_yes (i := 15) (v := _) rfl (by kernel_rfl) (by kernel_rfl) (by kernel_rfl) (fun _ _ _ h => h) (by rfl) (fun w' hSw => exec_load_mid_th (.tmp 84) rfl rfl hSw.2.2.2) hHeld ?rest15a
      try simp only [Act.put, List.setIfInBounds_toArray, List.set_cons_zero, List.set_cons_succ]
      refine take_yes (i := 16) (v := ?v16a) rfl (by kernel_rfl) (by kernel_rfl) (by kernel_rfl) (fun _ _ _ h => h) (by rfl) ?hy16a hHeld ?rest16a
      case hy16a =>
        intro w' hSw
        obtain ⟨-, s0, -⟩ := hSw
        go_simp <;> with_reducible rfl
      try simp only [Act.put, List.setIfInBounds_toArray, List.set_cons_zero, List.set_cons_succ]
      refine take_yes (i := 17) (v := ?v17a) rfl (by kernel_rfl) (by kernel_rfl) (by kernel_rfl) (fun _ _ _ h => h) (by rfl) ?hy17a hHeld ?rest17a
      case hy17a =>
        intro w' hSw
        obtain ⟨-, s0, -⟩ := hSw
        go_simp <;> with_reducible rfl
      try simp only [Act.put, List.setIfInBounds_toArray, List.set_cons_zero, List.set_cons_succ]
      refine wpAnyH_done (by kernel_rfl) ?_ _
      obtain ⟨hbd, -⟩ := hHeld
      clear SB EQ
      go_wp2_with fail
      go_roundw
      case rel => exact ⟨k + 1, by omega, by go_num, hbd⟩
      case measure => simp [intOf]; omega
    · obtain rfl : k = n1 := by omega
      have hlt' : ¬ (k : Int) < (k : Int) := by omega
      have hbv := hid hb
      clear hb
      go_wp2_with fail
      go_loopw [11] (fun s11 wr => ∃ k : Nat, k ≤ n0 ∧ s11 = .int .i64 (k : Nat) ∧ Below v9.heap.size v9 wr) (fun s11 _ => n0 - (intOf s11).toNat)
      case atStart => exact ⟨0, by omega, rfl, hbv.out⟩
      case round =>
        clear hlt hlt' hk
        obtain ⟨j, hj, rfl, hb⟩ := hrel
        by_cases hlt : j < n0
        · have hlt' : (j : Int) < (n0 : Int) := by omega
          obtain ⟨t, ht⟩ := get_th L0 j (by rw [hn0.out]; exact hlt)
          have he : (L0.map leE)[j]? = some (leE t) := by rw [List.getElem?_map, ht]; rfl
          obtain ⟨b, off, hp8, hc⟩ := E8c.out.at he
          subst hp8
          obtain ⟨b1, off1, hp0, hc1⟩ := R0c.out.at ht
          subst hp0
          have x0 := (range_on hc hb) 0 _ rfl
          have x1 := (range_on hc hb) 1 _ rfl
          have x2 := (cellsT_later hc1 hb).1
          have y0 : World.cell? _ ⟨b, off + j * 25, none⟩ = some (.int .i64 3) := x0
          have y1 : World.cell? _ ⟨b, off + j * 25 + 1, none⟩ = some (.int .i64 t.id) := x1
          have hneq : (t.id != t.id) = false := by simp
          have hb' := hid hb
          clear ht he hc hc1 x0 x1
          go_upto_region 18 with fail
          go_quiet (fail)
          clear y0 y1 x2
          go_wp2_with fail
          go_roundw
          case rel => exact ⟨j + 1, by omega, by go_num, below_drewN hb'.out _⟩
          case measure => simp [intOf]; omega
        · obtain rfl : j = n0 := by omega
          have hlt' : ¬ (j : Int) < (j : Int) := by omega
          have hBf := below_on hB9.out hb
          have SV := SC _ (below_on hV9.out hb)
          obtain ⟨s0, s1, s2, s3⟩ := SV
          clear hb
          go_wp2_with fail
          refine (C4 _ hBf).mono ?_
          rintro x vz ⟨pz, cz, rfl, -, hbz⟩
          have hBz := below_on hBf hbz
          clear hbz hBf C4 s0 s1 s2 s3
          go_wp2_with fail
          rw [← hQ.out]
          exact ⟨rfl, below_on hE0.out hBz⟩

theorem diffBlind_own : ownKnob Try.prog.godebug = none := by kernel_rfl
theorem diffBlind_laidOut : laidOutB Try.prog = true := by kernel_rfl
set_option maxRecDepth 100000 in
theorem diffBlind_lifted (os : Os) (started : os.Started) (H : Type) (enc : TypeId × Value → H) :
    ReturnsInHanded {} Try.checked os 7 .any (Rows.diffBlindSpec.pre6 enc Try.prog Try.f7 Rows.diffBlindRow.domain false) (Rows.diffBlindSpec.post enc Try.prog Try.f7 false true false false) := by
  refine returnsInHanded_of_change (C := Try.checked) diffBlind_own started (by kernel_rfl) Try.func7
    (ChangeSpec.witness6 (enc := enc) (C := Try.checked) false ⟨#[], #[.slice none 0 0, .slice none 0 0, .agg #[.int .i64 0, .int .i64 0, .int .i64 0, .int .i64 0]], []⟩ 8 (by kernel_rfl) (by kernel_rfl) (by kernel_rfl) (by kernel_rfl)) ?_
  intro W base args ds gs before hval0 hW hcnd _
  have hval : ∀ (j : Nat) t v, Try.f7.params[j]? = some t → args[j]? = some v → Value.okWide Try.prog W .any base t v := hval0
  have hW' := hW
  obtain ⟨p, q, hA0, hV, rfl, hfz, hnd⟩ := hW
  have hA : DataW.TrodAll enc Try.prog W 0 (fun _ => true) true Try.f7.params.toList args.toList ds p := hA0
  rw [Try.params7] at hA hval
  obtain ⟨v0, vs0, d0, ds0, p0, q0, hargs, rfl, rfl, h0, r0⟩ := trodAll_cons hA
  obtain ⟨v1, vs1, d1, ds1, p1, q1, rfl, rfl, rfl, h1, r1⟩ := trodAll_cons r0
  obtain ⟨v2, vs2, d2, ds2, p2, q2, rfl, rfl, rfl, h2, r2⟩ := trodAll_cons r1
  obtain ⟨rfl, rfl, rfl⟩ := trodAll_nil r2
  obtain rfl : args = #[v0, v1, v2] := by cases args; simp_all
  obtain ⟨rfl, rfl⟩ := trodVars_none hV
  have k0 := h0
  have lt0 : ∀ x ∈ p0, x.block < W.heap.size := by obtain ⟨m, hm⟩ := k0; exact DataW.trod_lt m _ _ _ hm
  have k1 := h1
  have lt1 : ∀ x ∈ p1, x.block < W.heap.size := by obtain ⟨m, hm⟩ := k1; exact DataW.trod_lt m _ _ _ hm
  have k2 := h2
  have lt2 : ∀ x ∈ p2, x.block < W.heap.size := by obtain ⟨m, hm⟩ := k2; exact DataW.trod_lt m _ _ _ hm
  obtain ⟨a0, cap0, L0, rfl, i0, r0', c0, m0⟩ := open_ths (hval 0 22 v0 rfl rfl) h0
  obtain ⟨a1, cap1, L1, rfl, i1, r1', c1, m1⟩ := open_ths (hval 1 22 v1 rfl rfl) h1
  obtain ⟨c20, c21, c22, c23, y20, y21, y22, y23, n2, rfl, rfl, rfl, t20, t21, t22, t23⟩ := Go.Joins.open_agg4 Try.underlying24 (by kernel_rfl) (by kernel_rfl) (hval 2 24 v2 rfl rfl) h2
  obtain ⟨a20, e20, -, w20⟩ := DataW.trod_int Try.underlying3 t20
  obtain rfl : c20 = .int .i64 a20 := by simpa using e20
  obtain ⟨a21, e21, -, w21⟩ := DataW.trod_int Try.underlying3 t21
  obtain rfl : c21 = .int .i64 a21 := by simpa using e21
  obtain ⟨a22, e22, -, w22⟩ := DataW.trod_int Try.underlying3 t22
  obtain rfl : c22 = .int .i64 a22 := by simpa using e22
  obtain ⟨a23, e23, -, w23⟩ := DataW.trod_int Try.underlying3 t23
  obtain rfl : c23 = .int .i64 a23 := by simpa using e23
  clear hA0 hval0
  refine (diffBlind_walk W a0 cap0 L0 i0 r0' c0 m0 a1 cap1 L1 i1 r1' c1 m1 a20 a21 a22 a23).mono fun e W' ⟨he, bel⟩ => ?_
  subst he
  exact ⟨_, rfl, _, _, _, [], _, [], hW', trodAll_mk1 (shut_bool Try.underlying4 _), (trodAll_cons_mk (Below.trod diffBlind_laidOut (by kernel_rfl) (of_decide_eq_true (by kernel_rfl)) k0 bel lt0) (trodAll_cons_mk (Below.trod diffBlind_laidOut (by kernel_rfl) (of_decide_eq_true (by kernel_rfl)) k1 bel lt1) (trodAll_cons_mk (Below.trod diffBlind_laidOut (by kernel_rfl) (of_decide_eq_true (by kernel_rfl)) k2 bel lt2) trodAll_mk0))), rfl, bel.frame _, fun h => by cases h⟩

theorem diffBlind_over : Rows.diffBlindRow.holds Try.pinned (OpenSpec.ofChange Rows.diffBlindSpec) :=
  OpenClaim.holds_of_wide 7 Try.f7 rfl rfl rfl rfl rfl rfl rfl ⟨rfl, rfl, rfl, rfl, rfl⟩ rfl rfl rfl rfl rfl (by kernel_rfl) Try.func7 (by kernel_rfl)
    (of_decide_eq_true (by kernel_rfl)) (by unfold Func.isWrapper; first | (rw [if_pos (by decide +kernel)]; kernel_rfl) | (rw [if_neg (by decide +kernel)]; exact ⟨rfl, rfl⟩))
    (fun os started H enc _ => diffBlind_lifted os started H enc)

theorem diffBlind_holds : Rows.DiffBlindSaid := diffBlind_over
#print axioms diffBlind_holds
end Go.Proofs.Ytjdlcocncacmlaa
