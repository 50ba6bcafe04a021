/- Contracts of the lists of parts of the package cmd, second part. -/
import Derived.Test.YtpedngbjpbeanaaGreatDoorCB
namespace Go.Proofs.YtpedngbjpbeanaaGreatDoor
section
open Go.RowKit
set_option linter.unusedVariables false
set_option maxRecDepth 100000
theorem below_ad2 (w : World) (A B C : Obj) : Below w.heap.size w (((w.alloc A).alloc B).alloc C).drew := ((Go.Joins.below_alloc2 w A B).alloc (by simp only [World.size_alloc]; omega) C).drew
theorem below_a2 (w : World) (A B C : Obj) : Below w.heap.size w (((w.alloc A).alloc B).alloc C) := (Go.Joins.below_alloc2 w A B).alloc (by simp only [World.size_alloc]; omega) C
theorem row_lit {w W : World} {g b : Nat} (L : List Pa) (hb : b = W.heap.size) (hW : w.heap.size ≤ W.heap.size) (hl : L.length ≤ 100) {cs : Array Value} (hc : cs = (L.map (Pa.v g)).toArray) : RowP (W.alloc (.cells cs 133)) w.heap.size g (.slice (some ⟨b, 0, none⟩) L.length L.length) L := by
  subst hc hb
  exact World.ownsRow_lit (e := 133) (size := 1) W (L.map (Pa.v g)).toArray L.length hW (by unfold maxLen; omega) (by simp)
theorem row_litD {w W : World} {g b : Nat} (L : List Pa) (hb : b = W.heap.size) (hW : w.heap.size ≤ W.heap.size) (hl : L.length ≤ 100) {cs : Array Value} (hc : cs = (L.map (Pa.v g)).toArray) : RowP (W.alloc (.cells cs 133)).drew w.heap.size g (.slice (some ⟨b, 0, none⟩) L.length L.length) L := row_lit L hb hW hl hc
set_option maxHeartbeats 2000000 in
theorem rest3 {w : World} {g : Nat} {c : Cm} (h : w.heap[g]? = some c.o) (hk : c.kd = 3) :
    Calls Tryz.prog 75 #[.pointer (some ⟨g, 0, none⟩)] w fun e w' => ∃ v, e = .returned v ∧ RowP w' w.heap.size g v (restP 3) ∧ Below w.heap.size w w' := by
  have hg : g < w.heap.size := at_lt h
  have hc : w.cell? ⟨g, 0, none⟩ = some (.int .i64 3) := by rw [cell_i h (k := 0) (.inl rfl)]; simp only [Cm.i, hk]
  go_enter Tryz.func75, Tryz.ntmps75
  go_wp2_with fail
  go_region
  go_wp2_with fail
  go_ret
  exact ⟨.slice (some ⟨w.heap.size + 1 + 1, 0, none⟩) 3 3, rfl, row_litD (w := w) (W := (w.alloc (numO g 1 0 1000000)).alloc (numO g 2 (-1) 100)) (g := g) [.num 1 0 1000000, .num 2 (-1) 100, .fld 14] (by simp only [World.size_alloc]) (by simp only [World.size_alloc]; omega) (by decide) rfl, below_ad2 _ _ _ _⟩
set_option maxHeartbeats 2000000 in
theorem rest4 {w : World} {g : Nat} {c : Cm} (h : w.heap[g]? = some c.o) (hk : c.kd = 4) :
    Calls Tryz.prog 75 #[.pointer (some ⟨g, 0, none⟩)] w fun e w' => ∃ v, e = .returned v ∧ RowP w' w.heap.size g v (restP 4) ∧ Below w.heap.size w w' := by
  have hg : g < w.heap.size := at_lt h
  have hc : w.cell? ⟨g, 0, none⟩ = some (.int .i64 4) := by rw [cell_i h (k := 0) (.inl rfl)]; simp only [Cm.i, hk]
  go_enter Tryz.func75, Tryz.ntmps75
  go_wp2_with fail
  go_ret
  exact ⟨.slice (some ⟨w.heap.size + 1 + 1, 0, none⟩) 1 1, rfl, row_lit (w := w) (W := (w.alloc (numO g 1 0 1000000)).alloc (numO g 2 (-1) 100)) (g := g) [.num 1 0 1000000] (by simp only [World.size_alloc]) (by simp only [World.size_alloc]; omega) (by decide) rfl, below_a2 _ _ _ _⟩
set_option maxHeartbeats 2000000 in
theorem rest5 {w : World} {g : Nat} {c : Cm} (h : w.heap[g]? = some c.o) (hk : c.kd = 5) :
    Calls Tryz.prog 75 #[.pointer (some ⟨g, 0, none⟩)] w fun e w' => ∃ v, e = .returned v ∧ RowP w' w.heap.size g v (restP 5) ∧ Below w.heap.size w w' := by
  have hg : g < w.heap.size := at_lt h
  have hc : w.cell? ⟨g, 0, none⟩ = some (.int .i64 5) := by rw [cell_i h (k := 0) (.inl rfl)]; simp only [Cm.i, hk]
  go_enter Tryz.func75, Tryz.ntmps75
  go_wp2_with fail
  go_region
  go_wp2_with fail
  go_ret
  exact ⟨.slice (some ⟨w.heap.size + 1 + 1, 0, none⟩) 2 2, rfl, row_litD (w := w) (W := (w.alloc (numO g 1 0 1000000)).alloc (numO g 2 (-1) 100)) (g := g) [.num 2 (-1) 100, .num 3 (-1) 100] (by simp only [World.size_alloc]) (by simp only [World.size_alloc]; omega) (by decide) rfl, below_ad2 _ _ _ _⟩
set_option maxHeartbeats 4000000 in
theorem rest67 {w : World} {g : Nat} {c : Cm} (h : w.heap[g]? = some c.o) (hk : c.kd = 6 ∨ c.kd = 7) :
    Calls Tryz.prog 75 #[.pointer (some ⟨g, 0, none⟩)] w fun e w' => ∃ v, e = .returned v ∧ RowP w' w.heap.size g v rectP ∧ Below w.heap.size w w' := by
  have hg : g < w.heap.size := at_lt h
  have hc : w.cell? ⟨g, 0, none⟩ = some (.int .i64 c.kd) := cell_i h (k := 0) (.inl rfl)
  obtain ⟨W, hW⟩ : ∃ W, W = (w.alloc (numO g 1 0 1000000)).alloc (numO g 2 (-1) 100) := ⟨_, rfl⟩
  have hB : Below w.heap.size w W := by rw [hW]; exact Go.Joins.below_alloc2 _ _ _
  clear h
  obtain ⟨kd, hkd⟩ : ∃ kd, c.kd = kd := ⟨_, rfl⟩
  rw [hkd] at hk hc
  clear hkd
  rcases hk with rfl | rfl
  all_goals
    go_enter Tryz.func75, Tryz.ntmps75
    go_upto_region 16 with fail
    rw [← hW]
    have hgW : g < W.heap.size := by have := hB.size; omega
    have hwW : w.heap.size ≤ W.heap.size := hB.size
    clear hW hc
    go_region_held3 (fun _ => True) (trivial)
      (first
        | (go_at_call 88
           refine (cmd_place (g := g) (ks := [18, 19, 20, 21]) (drew_at (new_at _ _ _ rfl)) (by decide)).mono ?_
           rintro x w1 ⟨v1, rfl, hp1, hb1⟩
           have hB0 := (hB.alloc hwW (.cells #[.pointer (some ⟨g, 18, none⟩), .pointer (some ⟨g, 19, none⟩), .pointer (some ⟨g, 20, none⟩), .pointer (some ⟨g, 21, none⟩)] 88)).drew
           have hB1 : Below w.heap.size w w1 := below_on hB0 hb1
           have hp1 := hp1.mono hB0.size))
    all_goals
      go_wp2_with fail
      go_ret
      exact ⟨_, rfl, hp1, hB1⟩
set_option maxHeartbeats 2000000 in
theorem rest0 {w : World} {g : Nat} {c : Cm} (h : w.heap[g]? = some c.o) (hk : c.kd < 1 ∨ 7 < c.kd) :
    Calls Tryz.prog 75 #[.pointer (some ⟨g, 0, none⟩)] w fun e w' => e = .returned (.slice none 0 0) ∧ Below w.heap.size w w' := by
  have hg : g < w.heap.size := at_lt h
  have hc : w.cell? ⟨g, 0, none⟩ = some (.int .i64 c.kd) := cell_i h (k := 0) (.inl rfl)
  obtain ⟨kd, hkd⟩ : ∃ kd, c.kd = kd := ⟨_, rfl⟩
  rw [hkd] at hk hc
  have q1 : (kd == 1) = false := by simp; omega
  have q2 : (kd == 2) = false := by simp; omega
  have q3 : (kd == 3) = false := by simp; omega
  have q4 : (kd == 4) = false := by simp; omega
  have q5 : (kd == 5) = false := by simp; omega
  have q6 : (kd == 6) = false := by simp; omega
  have q7 : (kd == 7) = false := by simp; omega
  clear h hk hkd
  go_enter Tryz.func75, Tryz.ntmps75
  go_wp2_with fail
  go_ret
  exact ⟨rfl, Go.Joins.below_alloc2 _ _ _⟩
theorem rest_none {kd : Int} (hk : kd < 1 ∨ 7 < kd) : restP kd = [] := by
  unfold restP
  rw [if_neg (by omega), if_neg (by omega), if_neg (by omega), if_neg (by omega), if_neg (by omega), if_neg (by omega)]
theorem rest_rect {kd : Int} (hk : kd = 6 ∨ kd = 7) : restP kd = rectP := by
  rcases hk with rfl | rfl <;> rfl
theorem rest_some {kd : Int} (hk : ¬ (kd < 1 ∨ 7 < kd)) : 0 < (restP kd).length := by
  have : kd = 1 ∨ kd = 2 ∨ kd = 3 ∨ kd = 4 ∨ kd = 5 ∨ kd = 6 ∨ kd = 7 := by omega
  rcases this with rfl | rfl | rfl | rfl | rfl | rfl | rfl <;> decide
theorem cmd_rest {w : World} {g : Nat} {c : Cm} (h : w.heap[g]? = some c.o) :
    Calls Tryz.prog 75 #[.pointer (some ⟨g, 0, none⟩)] w fun e w' => ∃ v, e = .returned v ∧ RowP w' w.heap.size g v (restP c.kd) ∧ Below w.heap.size w w' := by
  by_cases h0 : c.kd < 1 ∨ 7 < c.kd
  · rw [rest_none h0]
    exact (rest0 h h0).mono fun e w' ⟨he, hb⟩ => ⟨_, he, World.ownsRow_nil _ _ _ _, hb⟩
  by_cases h1 : c.kd = 1
  · rw [h1]; exact rest1 h h1
  by_cases h2 : c.kd = 2
  · rw [h2]; exact rest2 h h2
  by_cases h3 : c.kd = 3
  · rw [h3]; exact rest3 h h3
  by_cases h4 : c.kd = 4
  · rw [h4]; exact rest4 h h4
  by_cases h5 : c.kd = 5
  · rw [h5]; exact rest5 h h5
  have h67 : c.kd = 6 ∨ c.kd = 7 := by omega
  rw [rest_rect h67]
  exact rest67 h h67
set_option maxHeartbeats 1000000 in
theorem parts_some {w : World} {g : Nat} {c : Cm} (h : w.heap[g]? = some c.o) (hk : ¬ (c.kd < 1 ∨ 7 < c.kd)) :
    Calls Tryz.prog 73 #[.pointer (some ⟨g, 0, none⟩)] w fun e w' => ∃ v, e = .returned v ∧ RowP w' w.heap.size g v (partsP c.kd) ∧ Below w.heap.size w w' := by
  obtain ⟨i0, hi, hz0, hz1, hz2⟩ := info_parts Tryz.infoPt
  have hg : g < w.heap.size := at_lt h
  have hpos := rest_some hk
  have hle := rest_len c.kd
  have HH := hid h
  clear h hk
  go_enter Tryz.func73, Tryz.ntmps73
  go_wp2_with fail
  refine (cmd_head hg).mono ?_
  rintro x w1 ⟨p1, c1, rfl, hp1, hb1⟩
  have H1 := hid (var_on hb1 HH.out hg)
  go_wp2_with fail
  refine (cmd_rest H1.out).mono ?_
  rintro x w2 ⟨v2, rfl, hp2, hb2⟩
  obtain ⟨p2, c2, rfl⟩ := owns_slice hp2
  obtain ⟨g2, rfl, -⟩ := ownsP_some hp2 hpos
  have hB2 := below_on hb1 hb2
  have hp1' := hp1.on hb2
  obtain ⟨n, hn⟩ : ∃ n, Hid ((restP c.kd).length = n) := ⟨_, rfl⟩
  unfold RowP at hp2
  rw [hn.out] at hpos hle hp2 ⊢
  go_wp2_with (at_builtin; refine wpList_append_lies _ rfl _ _ 129 rfl w.heap.size 133 i0 .nilIface 1 16 Tryz.underlying129 hi hz0 hz1 hz2 rfl (by decide) _ 3 (headP.map (Pa.v g)) rfl hp1' ⟨g2, 0, none⟩ n c2 ((restP c.kd).map (Pa.v g)) rfl (by rw [List.length_map, hn.out]; omega) (hp2.cells rfl) (parts_cell _ _) (by omega) (by unfold maxLen; omega) (by omega) hB2.size _ rfl ?_)
  intro g3 cp3 w3 hown hgrow hat hg3
  go_wp2_with fail
  go_ret
  exact ⟨_, rfl, row_joined (L := headP) (M := restP c.kd) hown rfl hn.out.symm, hB2.grown hgrow hB2.size (fun k hk => by have := (hp1'.lt k hk).1; omega)⟩
set_option maxHeartbeats 1000000 in
theorem parts_none {w : World} {g : Nat} {c : Cm} (h : w.heap[g]? = some c.o) (hk : c.kd < 1 ∨ 7 < c.kd) :
    Calls Tryz.prog 73 #[.pointer (some ⟨g, 0, none⟩)] w fun e w' => ∃ v, e = .returned v ∧ RowP w' w.heap.size g v (partsP c.kd) ∧ Below w.heap.size w w' := by
  obtain ⟨i0, hi, hz0, hz1, hz2⟩ := info_parts Tryz.infoPt
  have hg : g < w.heap.size := at_lt h
  have hP : partsP c.kd = headP := by unfold partsP; rw [rest_none hk, List.append_nil]
  rw [hP]
  have HH := hid h
  clear h hP
  go_enter Tryz.func73, Tryz.ntmps73
  go_wp2_with fail
  refine (cmd_head hg).mono ?_
  rintro x w1 ⟨p1, c1, rfl, hp1, hb1⟩
  have H1 := hid (var_on hb1 HH.out hg)
  go_wp2_with fail
  refine (rest0 H1.out hk).mono ?_
  rintro x w2 ⟨rfl, hb2⟩
  have hB2 := below_on hb1 hb2
  have hp1' := hp1.on hb2
  obtain ⟨gp, rfl, -, -, hcap, -⟩ := ownsP_some hp1' (by decide)
  go_wp2_with fail
  go_ret
  exact ⟨_, rfl, hp1', hB2⟩
theorem cmd_parts {w : World} {g : Nat} {c : Cm} (h : w.heap[g]? = some c.o) :
    Calls Tryz.prog 73 #[.pointer (some ⟨g, 0, none⟩)] w fun e w' => ∃ v, e = .returned v ∧ RowP w' w.heap.size g v (partsP c.kd) ∧ Below w.heap.size w w' := by
  by_cases hk : c.kd < 1 ∨ 7 < c.kd
  · exact parts_none h hk
  · exact parts_some h hk
end
end Go.Proofs.YtpedngbjpbeanaaGreatDoor
