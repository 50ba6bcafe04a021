/- Contract of Of of the package diff: the events that the plain function says, in new memory; nothing that was there is changed. Contract of Diff of the reference: the events that the plain function says, in new memory; nothing that was there is changed. -/
import Derived.Test.YtjdlcocncacmlaaDB
namespace Go.Proofs.Ytjdlcocncacmlaa
section
open Go.RowKit
set_option linter.unusedVariables false
set_option linter.unusedSimpArgs false
def OfPost (w : World) (M : List Ev) (m : Nat) : Ending → World → Prop := fun x w' => ∃ p cap, x = .returned (.slice p m cap) ∧ w'.ownsRow w.heap.size 44 25 (.slice p m cap) m (flatE M) ∧ Below w.heap.size w w'
theorem owns_drewN {w : World} {base : Nat} {e : TypeId} {size : Nat} {v : Value} {n : Nat} {xs : List Value} (h : w.ownsRow base e size v n xs) (k : Nat) : (w.drewN k).ownsRow base e size v n xs := by
  induction k with
  | zero => exact h
  | succ k ih => exact ih.drew
def OfRel (W2 : World) (M : List Ev) (s9 s10 s11 : Value) (wr : World) : Prop := ∃ (A B : List Th) (O : List Ev) (pa pb : Option Addr) (na ca nb cb : Nat), s9 = .slice pa na ca ∧ s10 = .slice pb nb cb ∧ Hid (RowT W2 pa A) ∧ Hid (RowT W2 pb B) ∧ Hid (A.length = na) ∧ Hid (B.length = nb) ∧ na ≤ ca ∧ nb ≤ cb ∧ Hid (O ++ doO A B = M) ∧ O.length + na + nb ≤ 800 ∧ wr.ownsRow W2.heap.size 44 25 s11 O.length (flatE O) ∧ Below W2.heap.size W2 wr
theorem ahead_cases (A B : List Th) : (∃ a A', A = a :: A' ∧ (B = [] ∨ ∃ b B', B = b :: B' ∧ a.id < b.id) ∧ aheadB A B = true ∧ doO A B = leE a :: doO A' B) ∨ (∃ b B', B = b :: B' ∧ (A = [] ∨ ∃ a A', A = a :: A' ∧ b.id < a.id) ∧ aheadB A B = false ∧ aheadB B A = true ∧ doO A B = enE b :: doO A B') ∨ (A = [] ∧ B = [] ∧ aheadB A B = false ∧ aheadB B A = false) ∨ (∃ a A' b B', A = a :: A' ∧ B = b :: B' ∧ a.id = b.id ∧ aheadB A B = false ∧ aheadB B A = false ∧ doO A B = upE a b ++ doO A' B') := by
  cases A with
  | nil =>
    cases B with
    | nil => exact .inr (.inr (.inl ⟨rfl, rfl, rfl, rfl⟩))
    | cons b B => exact .inr (.inl ⟨b, B, rfl, .inl rfl, rfl, rfl, rfl⟩)
  | cons a A =>
    cases B with
    | nil => exact .inl ⟨a, A, rfl, .inl rfl, rfl, rfl⟩
    | cons b B =>
      by_cases h1 : a.id < b.id
      · exact .inl ⟨a, A, rfl, .inr ⟨b, B, rfl, h1⟩, by simp [aheadB, h1], doO_l _ _ h1⟩
      · by_cases h2 : b.id < a.id
        · exact .inr (.inl ⟨b, B, rfl, .inr ⟨a, A, rfl, h2⟩, by simp [aheadB, h1], by simp [aheadB, h2], doO_e _ _ h2⟩)
        · exact .inr (.inr (.inr ⟨a, A, b, B, rfl, rfl, by omega, by simp [aheadB, h1], by simp [aheadB, h2], doO_u _ _ (by omega)⟩))
set_option maxRecDepth 100000 in
set_option maxHeartbeats 8000000 in
theorem diff_of {w : World} {p p' : Option Addr} {cap cap' n n' : Nat} {L L' : List Th} {r r' : Rc} (hr : RowT w p L) (hr' : RowT w p' L') (hn : Hid (L.length = n)) (hn' : Hid (L'.length = n')) (hl : n ≤ 400) (hl' : n' ≤ 400) {M : List Ev} (hM : Hid (doO (seenL r L) (seenL r' L') = M)) {m : Nat} (hm : Hid (M.length = m)) :
    Calls Try.prog 12 #[.slice p n cap, rc r.x0 r.y0 r.x1 r.y1, .slice p' n' cap', rc r'.x0 r'.y0 r'.x1 r'.y1] w (OfPost w M m) := by
  obtain ⟨i0, hi, hz0, hz1, hz2⟩ := info_parts3 Try.infoEv
  obtain ⟨W0, hW0⟩ : ∃ W0, (w.alloc (rcO r.x0 r.y0 r.x1 r.y1)).alloc (rcO r'.x0 r'.y0 r'.x1 r'.y1) = W0 := ⟨_, rfl⟩
  have hE : Below w.heap.size w W0 := by rw [← hW0]; exact Go.Joins.below_alloc2 _ _ _
  have K := hid (show W0.heap[w.heap.size]? = some (rcO r.x0 r.y0 r.x1 r.y1) by rw [← hW0]; exact old_at (new_at _ _ _ rfl) _)
  have K' := hid (show W0.heap[w.heap.size + 1]? = some (rcO r'.x0 r'.y0 r'.x1 r'.y1) by rw [← hW0]; exact new_at _ _ _ (by simp))
  have HR := hid (hr.later hE)
  have HR' := hid (hr'.later hE)
  clear hr hr'
  obtain ⟨g0, hg0⟩ : ∃ g, Hid (w.heap.size = g) := ⟨_, rfl⟩
  obtain ⟨na, hna⟩ : ∃ k, Hid ((seenL r L).length = k) := ⟨_, rfl⟩
  obtain ⟨nb, hnb⟩ : ∃ k, Hid ((seenL r' L').length = k) := ⟨_, rfl⟩
  have lna : na ≤ 400 := by have := seen_len r L; rw [hna.out, hn.out] at this; omega
  have lnb : nb ≤ 400 := by have := seen_len r' L'; rw [hnb.out, hn'.out] at this; omega
  obtain ⟨A, hA⟩ : ∃ A, Hid (seenL r L = A) := ⟨_, rfl⟩
  obtain ⟨B, hB⟩ : ∃ B, Hid (seenL r' L' = B) := ⟨_, rfl⟩
  obtain ⟨Q, hQ⟩ : ∃ Q, Hid (OfPost w M m = Q) := ⟨_, rfl⟩
  rw [hQ.out]
  rw [hA.out] at hna hM
  rw [hB.out] at hnb hM
  go_enter Try.func12, Try.ntmps12
  go_wp2_with fail
  go_step3
  go_upto_region 1 with fail
  try rw [hW0]
  clear hW0
  rw [hg0.out] at K K' ⊢
  have hE0 := hid hE
  clear hE
  have c := (cells_at K.out).1
  have c' := (cells_at K'.out).1
  have S0 : W0.cell? ⟨g0, 0, none⟩ = some (.int .i64 r.x0) ∧ W0.cell? ⟨g0, 1, none⟩ = some (.int .i64 r.y0) ∧ W0.cell? ⟨g0, 2, none⟩ = some (.int .i64 r.x1) ∧ W0.cell? ⟨g0, 3, none⟩ = some (.int .i64 r.y1) ∧ W0.cell? ⟨g0 + 1, 0, none⟩ = some (.int .i64 r'.x0) ∧ W0.cell? ⟨g0 + 1, 1, none⟩ = some (.int .i64 r'.y0) ∧ W0.cell? ⟨g0 + 1, 2, none⟩ = some (.int .i64 r'.x1) ∧ W0.cell? ⟨g0 + 1, 3, none⟩ = some (.int .i64 r'.y1) := ⟨c 0, c 1, c 2, c 3, c' 0, c' 1, c' 2, c' 3⟩
  clear c c' K K'
  go_wp2_with fail
  refine wp_region_held_drew (S := fun w' => Below W0.heap.size W0 w' ∧ w'.cell? ⟨g0, 0, none⟩ = some (.int .i64 r.x0) ∧ w'.cell? ⟨g0, 1, none⟩ = some (.int .i64 r.y0) ∧ w'.cell? ⟨g0, 2, none⟩ = some (.int .i64 r.x1) ∧ w'.cell? ⟨g0, 3, none⟩ = some (.int .i64 r.y1) ∧ w'.cell? ⟨g0 + 1, 0, none⟩ = some (.int .i64 r'.x0) ∧ w'.cell? ⟨g0 + 1, 1, none⟩ = some (.int .i64 r'.y0) ∧ w'.cell? ⟨g0 + 1, 2, none⟩ = some (.int .i64 r'.x1) ∧ w'.cell? ⟨g0 + 1, 3, none⟩ = some (.int .i64 r'.y1)) (by kernel_rfl) ⟨(Below.refl _ _).drew, S0⟩ (fun hHeld => ?_)
  refine take_yes (i := 0) (v := ?v0a) rfl (by kernel_rfl) (by kernel_rfl) (by kernel_rfl) (fun _ _ _ h => h) (by rfl) ?hy0a hHeld ?rest0a
  case hy0a =>
    intro w' hSw
    obtain ⟨-, s0, s1, s2, s3, s4, s5, s6, s7⟩ := hSw
    go_simp <;> with_reducible rfl
  try simp only [Act.put, List.setIfInBounds_toArray, List.set_cons_zero, List.set_cons_succ]
  refine take_yes (i := 1) (v := ?v1a) rfl (by kernel_rfl) (by kernel_rfl) (by kernel_rfl) (fun _ _ _ h => h) (by rfl) ?hy1a hHeld ?rest1a
  case hy1a =>
    intro w' hSw
    obtain ⟨-, s0, s1, s2, s3, s4, s5, s6, s7⟩ := hSw
    go_simp <;> with_reducible rfl
  try simp only [Act.put, List.setIfInBounds_toArray, List.set_cons_zero, List.set_cons_succ]
  refine take_yes (i := 3) (v := ?v3a) rfl (by kernel_rfl) (by kernel_rfl) (by kernel_rfl) (fun _ _ _ h => h) (by rfl) ?hy3a hHeld ?rest3a
  case hy3a =>
    intro w' hSw
    obtain ⟨-, s0, s1, s2, s3, s4, s5, s6, s7⟩ := hSw
    go_simp <;> with_reducible rfl
  try simp only [Act.put, List.setIfInBounds_toArray, List.set_cons_zero, List.set_cons_succ]
  refine take_yes (i := 4) (v := ?v4a) rfl (by kernel_rfl) (by kernel_rfl) (by kernel_rfl) (fun _ _ _ h => h) (by rfl) ?hy4a hHeld ?rest4a
  case hy4a =>
    intro w' hSw
    obtain ⟨-, s0, s1, s2, s3, s4, s5, s6, s7⟩ := hSw
    go_simp <;> with_reducible rfl
  try simp only [Act.put, List.setIfInBounds_toArray, List.set_cons_zero, List.set_cons_succ]
  refine wpAnyH_ready (rs := [2]) (by kernel_rfl) (by simp) (cons_at (i := 2) rfl (fun K2a hK2a => ?_) AllReadyH.nil)
  go_simp
  go_at_call 15
  with_reducible refine (diff_seen (HR.out.later hHeld.1) hn hl hA hna).mono ?_
  rintro x W1 ⟨pa, ca, rfl, hoa0, hb10⟩
  have hoa := hoa0.mono hHeld.1.size
  obtain ⟨hq1, t10, t11, t12, t13, t14, t15, t16, t17⟩ := hHeld
  have hb1 := below_on hq1 hb10
  have SS1 := (⟨hb1, cell_below hb10 t10, cell_below hb10 t11, cell_below hb10 t12, cell_below hb10 t13, cell_below hb10 t14, cell_below hb10 t15, cell_below hb10 t16, cell_below hb10 t17⟩ : (Below W0.heap.size W0 W1 ∧ W1.cell? ⟨g0, 0, none⟩ = some (.int .i64 r.x0) ∧ W1.cell? ⟨g0, 1, none⟩ = some (.int .i64 r.y0) ∧ W1.cell? ⟨g0, 2, none⟩ = some (.int .i64 r.x1) ∧ W1.cell? ⟨g0, 3, none⟩ = some (.int .i64 r.y1) ∧ W1.cell? ⟨g0 + 1, 0, none⟩ = some (.int .i64 r'.x0) ∧ W1.cell? ⟨g0 + 1, 1, none⟩ = some (.int .i64 r'.y0) ∧ W1.cell? ⟨g0 + 1, 2, none⟩ = some (.int .i64 r'.x1) ∧ W1.cell? ⟨g0 + 1, 3, none⟩ = some (.int .i64 r'.y1)))
  clear hq1 t10 t11 t12 t13 t14 t15 t16 t17
  go_wp2_with fail
  refine hK2a.out _ _ SS1 (fun hHeld => ?_)
  clear hK2a K2a
  try simp only [Act.put, List.setIfInBounds_toArray, List.set_cons_zero, List.set_cons_succ]
  refine wpAnyH_ready (rs := [5]) (by kernel_rfl) (by simp) (cons_at (i := 5) rfl (fun K5a hK5a => ?_) AllReadyH.nil)
  go_simp
  go_at_call 15
  with_reducible refine (diff_seen (HR'.out.later hHeld.1) hn' hl' hB hnb).mono ?_
  rintro x W2 ⟨pb, cb, rfl, hob0, hb2x0⟩
  have hob := hob0.mono hHeld.1.size
  obtain ⟨hq2, t20, t21, t22, t23, t24, t25, t26, t27⟩ := hHeld
  have hb2x := below_on hq2 hb2x0
  have SS2 := (⟨hb2x, cell_below hb2x0 t20, cell_below hb2x0 t21, cell_below hb2x0 t22, cell_below hb2x0 t23, cell_below hb2x0 t24, cell_below hb2x0 t25, cell_below hb2x0 t26, cell_below hb2x0 t27⟩ : (Below W0.heap.size W0 W2 ∧ W2.cell? ⟨g0, 0, none⟩ = some (.int .i64 r.x0) ∧ W2.cell? ⟨g0, 1, none⟩ = some (.int .i64 r.y0) ∧ W2.cell? ⟨g0, 2, none⟩ = some (.int .i64 r.x1) ∧ W2.cell? ⟨g0, 3, none⟩ = some (.int .i64 r.y1) ∧ W2.cell? ⟨g0 + 1, 0, none⟩ = some (.int .i64 r'.x0) ∧ W2.cell? ⟨g0 + 1, 1, none⟩ = some (.int .i64 r'.y0) ∧ W2.cell? ⟨g0 + 1, 2, none⟩ = some (.int .i64 r'.x1) ∧ W2.cell? ⟨g0 + 1, 3, none⟩ = some (.int .i64 r'.y1)))
  have hb12 : Below W1.heap.size W1 W2 := (Below.refl _ _).trans (hb2x0.mono (Nat.le_refl _))
  clear hq2 t20 t21 t22 t23 t24 t25 t26 t27
  go_wp2_with fail
  refine hK5a.out _ _ SS2 (fun hHeld => ?_)
  clear hK5a K5a
  try simp only [Act.put, List.setIfInBounds_toArray, List.set_cons_zero, List.set_cons_succ]
  refine take_yes (i := 6) (v := ?v6a) rfl (by kernel_rfl) (by kernel_rfl) (by kernel_rfl) (fun _ _ _ h => h) (by rfl) ?hy6a hHeld ?rest6a
  case hy6a =>
    intro w' hSw
    obtain ⟨-, s0, s1, s2, s3, s4, s5, s6, s7⟩ := hSw
    go_simp <;> with_reducible rfl
  try simp only [Act.put, List.setIfInBounds_toArray, List.set_cons_zero, List.set_cons_succ]
  refine take_yes (i := 7) (v := ?v7a) rfl (by kernel_rfl) (by kernel_rfl) (by kernel_rfl) (fun _ _ _ h => h) (by rfl) ?hy7a hHeld ?rest7a
  case hy7a =>
    intro w' hSw
    obtain ⟨-, s0, s1, s2, s3, s4, s5, s6, s7⟩ := hSw
    go_simp <;> with_reducible rfl
  try simp only [Act.put, List.setIfInBounds_toArray, List.set_cons_zero, List.set_cons_succ]
  refine wpAnyH_done (by kernel_rfl) ?_ _
  obtain ⟨hb2, -⟩ := hHeld
  have ho1 := owns_on hoa hb12
  have RA0 := hid (row_own ho1 hna.out.symm)
  have RB0 := hid (row_own hob hnb.out.symm)
  have ca1 := owns_cap hoa
  have cb1 := owns_cap hob
  have hE2 := hid (below_on hE0.out hb2)
  clear hoa hob ho1 hb12 hb2 hb1 HR HR' S0 hE0 hA hB hn hn' SS1 SS2 hoa0 hob0 hb10 hb2x0 hb2x
  go_wp2_with fail
  go_step3
  go_wp2_with fail
  go_loopw [9, 10, 11] (fun s9 s10 s11 wr => OfRel W2 M s9 s10 s11 wr) (fun s9 s10 _ _ => lenV s9 + lenV s10)
  case atStart => exact ⟨A, B, [], pa, pb, na, ca, nb, cb, rfl, rfl, RA0, RB0, hna, hnb, ca1, cb1, hM, by simp; omega, World.ownsRow_nil _ _ _ _, Below.refl _ _⟩
  case round =>
    clear RA0 RB0 hna hnb ca1 cb1 hM lna lnb
    obtain ⟨A, B, O, pa, pb, na, ca, nb, cb, rfl, rfl, RA, RB, hna, hnb, ca1, cb1, hM, hlen, ho, hb⟩ := hrel
    obtain ⟨p5, c5, rfl⟩ := owns_slice ho
    have hs := hb.size
    obtain ⟨qa, hqa⟩ : ∃ q, Hid (aheadB A B = q) := ⟨_, rfl⟩
    obtain ⟨qb, hqb⟩ : ∃ q, Hid (aheadB B A = q) := ⟨_, rfl⟩
    have C1 := diff_ahead (cap := ca) (cap' := cb) (RA.out.later hb) (RB.out.later hb) hna hnb hqa
    go_wp2_with fail
    refine C1.mono ?_
    rintro x w1 ⟨rfl, hb1⟩
    have ho1 := owns_on ho hb1
    have hB1 := below_on hb hb1
    clear C1 ho hb1 hb hs
    have hs := hB1.size
    rcases ahead_cases A B with ⟨a, A', rfl, -, e1, e2⟩ | ⟨b, B', rfl, -, e1, e3, e2⟩ | ⟨rfl, rfl, e1, e3⟩ | ⟨a, A', b, B', rfl, rfl, eid, e1, e3, e2⟩
    · obtain rfl : qa = true := hqa.out.symm.trans e1
      have eM := hid (show (O ++ [leE a]) ++ doO A' B = M by rw [← hM.out, e2]; simp)
      obtain ⟨na', rfl⟩ : ∃ k, na = k + 1 := ⟨A'.length, by rw [← hna.out]; rfl⟩
      have hna' := hid (show A'.length = na' by have := hna.out; simp only [List.length_cons] at this; omega)
      have HT := RA.out.tail (c := ca) (by rw [hna.out]; exact ca1)
      obtain ⟨ba, oa, rfl, cA⟩ := (RA.out.later hB1).at (k := 0) (t := a) rfl
      have c0 : w1.cell? ⟨ba, oa, none⟩ = some (.int .i64 a.id) := by have := cA.1; rwa [Nat.zero_mul, Nat.add_zero] at this
      have hT := run_tail (n := na' + 1) (c := ca) (p := some ⟨ba, oa, none⟩) (by omega) ca1
      have hpos : (0 : Int) < ((na' + 1 : Nat) : Int) := by omega
      have HT2 := hid HT
      clear cA e1 e2 hqa hqb hM hna RA HT
      go_wp2_with (first
        | ((with_reducible refine wpList_build_3 ?_ (.const (.int .i64 3)) (.tmp 50) rfl rfl rfl ?_); · rfl)
        | (at_builtin; refine wpList_append_lies _ rfl _ _ 28 rfl W2.heap.size 44 i0 zE.v 25 264 Try.underlying28 hi hz0 hz1 hz2 rfl (by decide) _ _ _ rfl (ho1.alloc _) ⟨w1.heap.size, 0, none⟩ 1 1 (leE a).cs rfl rfl (World.news_of_block (heap_alloc_new _ _)) (evs_cell (leE a)) (by decide) (by unfold maxLen; omega) (by omega) (by simp; omega) (w1.heap.size + 1) (by simp) ?_; intro g5 cap5 W5 hown5 hgrow5 hat5 hg5))
      go_roundw
      case rel =>
        refine ⟨A', B, O ++ [leE a], _, _, _, _, _, _, rfl, rfl, HT2, RB, hna', hnb, by omega, cb1, eM, by simp; omega, ?_, ?_⟩
        · rw [flatE_append, flatE_one, List.length_append]; exact hown5
        · exact (hB1.alloc hs _).grown hgrow5 (by simp; omega) (fun k hk => (ho1.lt k hk).1)
      case measure => simp [lenV]
    · obtain rfl : qa = false := hqa.out.symm.trans e1
      obtain rfl : qb = true := hqb.out.symm.trans e3
      have eM := hid (show (O ++ [enE b]) ++ doO A B' = M by rw [← hM.out, e2]; simp)
      have C2 := diff_ahead (cap := cb) (cap' := ca) (RB.out.later hB1) (RA.out.later hB1) hnb hna hqb
      go_wp2_with fail
      refine C2.mono ?_
      rintro x w2 ⟨rfl, hb2⟩
      have ho2 := owns_on ho1 hb2
      have hB2 := below_on hB1 hb2
      have hs2 := hB2.size
      clear C2 ho1 hB1 hs hb2
      obtain ⟨nb', rfl⟩ : ∃ k, nb = k + 1 := ⟨B'.length, by rw [← hnb.out]; rfl⟩
      have hnb' := hid (show B'.length = nb' by have := hnb.out; simp only [List.length_cons] at this; omega)
      have HT2 := hid (RB.out.tail (c := cb) (by rw [hnb.out]; exact cb1))
      obtain ⟨bb, ob, rfl, cB⟩ := RB.out.at (k := 0) (t := b) rfl
      rw [Nat.zero_mul, Nat.add_zero] at cB
      have SB : ∀ wx : World, Below W2.heap.size W2 wx → (Below W2.heap.size W2 wx ∧ wx.cell? ⟨bb, ob, none⟩ = some (.int .i64 b.id) ∧ wx.rangeAt bb ob b.cs) := fun wx hx => ⟨hx, (cellsT_later cB hx).1, range_th (cellsT_later cB hx)⟩
      have hT := run_tail (n := nb' + 1) (c := cb) (p := some ⟨bb, ob, none⟩) (by omega) cb1
      have hpos : (0 : Int) < ((nb' + 1 : Nat) : Int) := by omega
      clear cB e1 e2 e3 hqa hqb hM hnb RB
      go_wp2_with fail
      refine wp_region_held_drew (S := fun w' => Below W2.heap.size W2 w' ∧ w'.cell? ⟨bb, ob, none⟩ = some (.int .i64 b.id) ∧ w'.rangeAt bb ob b.cs) (by kernel_rfl) (SB _ hB2.drew) (fun hHeld => ?_)
      refine take_yes (i := 0) (v := ?v0b) rfl (by kernel_rfl) (by kernel_rfl) (by kernel_rfl) (fun _ _ _ h => h) (by rfl) ?hy0b hHeld ?rest0b
      case hy0b =>
        intro w' hSw
        obtain ⟨-, s0, -⟩ := hSw
        go_simp <;> with_reducible rfl
      try simp only [Act.put, List.setIfInBounds_toArray, List.set_cons_zero, List.set_cons_succ]
      refine take_yes (i := 1) (v := ?v1b) rfl (by kernel_rfl) (by kernel_rfl) (by kernel_rfl) (fun _ _ _ h => h) (by rfl) ?hy1b hHeld ?rest1b
      case hy1b =>
        intro w' hSw
        obtain ⟨-, s0, -⟩ := hSw
        go_simp <;> with_reducible rfl
      try simp only [Act.put, List.setIfInBounds_toArray, List.set_cons_zero, List.set_cons_succ]
      refine take_yes (i := 2) (v := ?v2b) rfl (by kernel_rfl) (by kernel_rfl) (by kernel_rfl) (fun _ _ _ h => h) (by rfl) ?hy2b hHeld ?rest2b
      case hy2b =>
        intro w' hSw
        obtain ⟨-, s0, -⟩ := hSw
        go_simp <;> with_reducible rfl
      try simp only [Act.put, List.setIfInBounds_toArray, List.set_cons_zero, List.set_cons_succ]
      refine take_yes (i := 3) (v := ?v3b) rfl (by kernel_rfl) (by kernel_rfl) (by kernel_rfl) (fun _ _ _ h => h) (by rfl) ?hy3b hHeld ?rest3b
      case hy3b =>
        intro w' hSw
        obtain ⟨-, s0, -⟩ := hSw
        go_simp <;> with_reducible rfl
      try simp only [Act.put, List.setIfInBounds_toArray, List.set_cons_zero, List.set_cons_succ]
      refine take_yes (i := 4) (v := ?v4b) rfl (by kernel_rfl) (by kernel_rfl) (by kernel_rfl) (fun _ _ _ h => h) (by rfl) ?hy4b hHeld ?rest4b
      case hy4b =>
        intro w' hSw
        obtain ⟨-, s0, -⟩ := hSw
        go_simp <;> with_reducible rfl
      try simp only [Act.put, List.setIfInBounds_toArray, List.set_cons_zero, List.set_cons_succ]
      refine take_yes (i := 5) (v := ?v5b) rfl (by kernel_rfl) (by kernel_rfl) (by kernel_rfl) (fun _ _ _ h => h) (by rfl) ?hy5b hHeld ?rest5b
      case hy5b =>
        intro w' hSw
        obtain ⟨-, s0, -⟩ := hSw
        go_simp <;> with_reducible rfl
      try simp only [Act.put, List.setIfInBounds_toArray, List.set_cons_zero, List.set_cons_succ]
      refine take_yes (i := 6) (v := ?v6b) rfl (by kernel_rfl) (by kernel_rfl) (by kernel_rfl) (fun _ _ _ h => h) (by rfl) ?hy6b hHeld ?rest6b
      case hy6b =>
        intro w' hSw
        obtain ⟨-, s0, -⟩ := hSw
        go_simp <;> with_reducible rfl
      try simp only [Act.put, List.setIfInBounds_toArray, List.set_cons_zero, List.set_cons_succ]
      refine take_yes (i := 7) (v := _) rfl (by kernel_rfl) (by kernel_rfl) (by kernel_rfl) (fun _ _ _ h => h) (by rfl) (fun w' hSw => exec_load_mid_th (.tmp 66) rfl rfl hSw.2.2) hHeld ?rest7b
      try simp only [Act.put, List.setIfInBounds_toArray, List.set_cons_zero, List.set_cons_succ]
      refine take_yes (i := 8) (v := _) rfl (by kernel_rfl) (by kernel_rfl) (by kernel_rfl) (fun _ _ _ h => h) (by rfl) (fun w' hSw => exec_build_1 (m := 1) (i := b.id) (t := b) (.const (.int .i64 1)) (.tmp 64) (.tmp 67) rfl rfl rfl rfl) hHeld ?rest8b
      try simp only [Act.put, List.setIfInBounds_toArray, List.set_cons_zero, List.set_cons_succ]
      refine wpAnyH_ready (rs := [9]) (by kernel_rfl) (by simp) (cons_at (i := 9) rfl (fun K9b hK9b => ?_) AllReadyH.nil)
      go_simp
      refine hK9b.out _ _ (SB _ (hB2.alloc hs2 _).drew) (fun hHeld => ?_)
      clear hK9b K9b
      try simp only [Act.put, List.setIfInBounds_toArray, List.set_cons_zero, List.set_cons_succ]
      refine wpAnyH_ready (rs := [10]) (by kernel_rfl) (by simp) (cons_at (i := 10) rfl (fun K10b hK10b => ?_) AllReadyH.nil)
      refine step_append_lies _ rfl (.tmp 60) (.tmp 69) 28 rfl W2.heap.size 44 i0 zE.v 25 264 Try.underlying28 hi hz0 hz1 hz2 rfl (by decide) _ _ _ rfl ((ho2.alloc _).drew) ⟨w2.heap.size, 0, none⟩ 1 1 (enE b).cs rfl rfl (World.news_of_block (heap_alloc_new _ _)) (evs_cell (enE b)) (by decide) (by unfold maxLen; omega) (by omega) (by simp; omega) (w2.heap.size + 1) (by simp) ?_
      intro g5 cap5 W5 hown5 hgrow5 hat5 hg5
      have hB5 : Below W2.heap.size W2 W5 := ((hB2.alloc hs2 _).drew).grown hgrow5 (by simp; omega) (fun k hk => (ho2.lt k hk).1)
      refine hK10b.out _ _ (SB _ hB5) (fun hHeld => ?_)
      clear hK10b K10b
      try simp only [Act.put, List.setIfInBounds_toArray, List.set_cons_zero, List.set_cons_succ]
      refine take_yes (i := 11) (v := ?v11b) rfl (by kernel_rfl) (by kernel_rfl) (by kernel_rfl) (fun _ _ _ h => h) (by rfl) ?hy11b hHeld ?rest11b
      case hy11b =>
        intro w' hSw
        obtain ⟨-, s0, -⟩ := hSw
        go_simp <;> with_reducible rfl
      try simp only [Act.put, List.setIfInBounds_toArray, List.set_cons_zero, List.set_cons_succ]
      refine wpAnyH_done (by kernel_rfl) ?_ _
      clear hHeld SB
      go_wp2_with fail
      go_roundw
      case rel => exact ⟨A, B', O ++ [enE b], _, _, _, _, _, _, rfl, rfl, RA, HT2, hna, hnb', ca1, by omega, eM, by simp; omega, by rw [flatE_append, flatE_one, List.length_append]; exact hown5, hB5⟩
      case measure => simp [lenV]
    · obtain rfl : qa = false := hqa.out.symm.trans e1
      obtain rfl : qb = false := hqb.out.symm.trans e3
      obtain rfl : O = M := by have := hM.out; rw [doO_n, List.append_nil] at this; exact this
      obtain rfl : na = 0 := hna.out.symm
      rw [hm.out] at ho1
      have C2 := diff_ahead (cap := cb) (cap' := ca) (RB.out.later hB1) (RA.out.later hB1) hnb hna hqb
      have hm2 := hid hm.out
      have HB2 := hid hB1
      go_wp2_with fail
      refine C2.mono ?_
      rintro x w2 ⟨rfl, hb2⟩
      have HE6 := hid (show OfPost w O m (.returned (.slice p5 m c5)) w2 from ⟨p5, c5, rfl, (owns_on ho1 hb2).mono hE2.out.size, below_on hE2.out (below_on HB2.out hb2)⟩)
      clear C2 ho1 hB1 hs hb2 e1 e3 hqa hqb hna
      go_wp2_with fail
      rw [← hQ.out]
      rw [hm2.out]
      exact HE6.out
    · obtain rfl : qa = false := hqa.out.symm.trans e1
      obtain rfl : qb = false := hqb.out.symm.trans e3
      have C2 := diff_ahead (cap := cb) (cap' := ca) (RB.out.later hB1) (RA.out.later hB1) hnb hna hqb
      go_wp2_with fail
      refine C2.mono ?_
      rintro x w2 ⟨rfl, hb2⟩
      have ho2 := owns_on ho1 hb2
      have hB2 := below_on hB1 hb2
      have hs2 := hB2.size
      clear C2 ho1 hB1 hs hb2
      obtain ⟨na', rfl⟩ : ∃ k, na = k + 1 := ⟨A'.length, by rw [← hna.out]; rfl⟩
      have hna' := hid (show A'.length = na' by have := hna.out; simp only [List.length_cons] at this; omega)
      obtain ⟨nb', rfl⟩ : ∃ k, nb = k + 1 := ⟨B'.length, by rw [← hnb.out]; rfl⟩
      have hnb' := hid (show B'.length = nb' by have := hnb.out; simp only [List.length_cons] at this; omega)
      have HTA := hid (RA.out.tail (c := ca) (by rw [hna.out]; exact ca1))
      have HTB := hid (RB.out.tail (c := cb) (by rw [hnb.out]; exact cb1))
      obtain ⟨ba, oa, rfl, cA⟩ := RA.out.at (k := 0) (t := a) rfl
      obtain ⟨bb, ob, rfl, cB⟩ := RB.out.at (k := 0) (t := b) rfl
      rw [Nat.zero_mul, Nat.add_zero] at cA cB
      have SB : ∀ wx : World, Below W2.heap.size W2 wx → (Below W2.heap.size W2 wx ∧ wx.rangeAt ba oa a.cs ∧ wx.rangeAt bb ob b.cs) := fun wx hx => ⟨hx, range_th (cellsT_later cA hx), range_th (cellsT_later cB hx)⟩
      have hTa := run_tail (n := na' + 1) (c := ca) (p := some ⟨ba, oa, none⟩) (by omega) ca1
      have hTb := run_tail (n := nb' + 1) (c := cb) (p := some ⟨bb, ob, none⟩) (by omega) cb1
      have hposa : (0 : Int) < ((na' + 1 : Nat) : Int) := by omega
      have hposb : (0 : Int) < ((nb' + 1 : Nat) : Int) := by omega
      have hz : (((na' + 1 : Nat) : Int) == 0) = false := by simp; omega
      obtain ⟨d, q, hd⟩ : ∃ d q, Hid (diff a b = (d, q)) := ⟨_, _, rfl⟩
      have CD := fun w => diffE_at hd w
      have hU := hid (show upE a b = (if q = true then [(⟨2, d.id, zT, d⟩ : Ev)] else []) by unfold upE; rw [hd.out])
      clear cA cB e1 e3 hqa hqb hna hnb RA RB hd
      go_upto_region 3 with fail
      go_cut [12, 13] from 20 to 76 (fun s12 s13 wx => ∃ gd, s12 = .pointer (some ⟨gd, 0, none⟩) ∧ s13 = .bool q ∧ wx.heap[gd]? = some d.o ∧ w2.heap.size ≤ gd ∧ Below w2.heap.size w2 wx)
      case first =>
        refine wp_region_held_drew (S := fun w' => Below W2.heap.size W2 w' ∧ w'.rangeAt ba oa a.cs ∧ w'.rangeAt bb ob b.cs) (by kernel_rfl) (SB _ hB2.drew) (fun hHeld => ?_)
        refine take_yes (i := 0) (v := ?v0c) rfl (by kernel_rfl) (by kernel_rfl) (by kernel_rfl) (fun _ _ _ h => h) (by rfl) ?hy0c hHeld ?rest0c
        case hy0c =>
          intro w' hSw
          obtain ⟨-, -, -⟩ := hSw
          go_simp <;> with_reducible rfl
        try simp only [Act.put, List.setIfInBounds_toArray, List.set_cons_zero, List.set_cons_succ]
        refine take_yes (i := 1) (v := ?v1c) rfl (by kernel_rfl) (by kernel_rfl) (by kernel_rfl) (fun _ _ _ h => h) (by rfl) ?hy1c hHeld ?rest1c
        case hy1c =>
          intro w' hSw
          obtain ⟨-, -, -⟩ := hSw
          go_simp <;> with_reducible rfl
        try simp only [Act.put, List.setIfInBounds_toArray, List.set_cons_zero, List.set_cons_succ]
        refine take_yes (i := 2) (v := _) rfl (by kernel_rfl) (by kernel_rfl) (by kernel_rfl) (fun _ _ _ h => h) (by rfl) (fun w' hSw => exec_load_mid_th (.tmp 22) rfl rfl hSw.2.1) hHeld ?rest2c
        try simp only [Act.put, List.setIfInBounds_toArray, List.set_cons_zero, List.set_cons_succ]
        refine take_yes (i := 3) (v := ?v3c) rfl (by kernel_rfl) (by kernel_rfl) (by kernel_rfl) (fun _ _ _ h => h) (by rfl) ?hy3c hHeld ?rest3c
        case hy3c =>
          intro w' hSw
          obtain ⟨-, -, -⟩ := hSw
          go_simp <;> with_reducible rfl
        try simp only [Act.put, List.setIfInBounds_toArray, List.set_cons_zero, List.set_cons_succ]
        refine take_yes (i := 4) (v := ?v4c) rfl (by kernel_rfl) (by kernel_rfl) (by kernel_rfl) (fun _ _ _ h => h) (by rfl) ?hy4c hHeld ?rest4c
        case hy4c =>
          intro w' hSw
          obtain ⟨-, -, -⟩ := hSw
          go_simp <;> with_reducible rfl
        try simp only [Act.put, List.setIfInBounds_toArray, List.set_cons_zero, List.set_cons_succ]
        refine take_yes (i := 5) (v := _) rfl (by kernel_rfl) (by kernel_rfl) (by kernel_rfl) (fun _ _ _ h => h) (by rfl) (fun w' hSw => exec_load_mid_th (.tmp 25) rfl rfl hSw.2.2) hHeld ?rest5c
        try simp only [Act.put, List.setIfInBounds_toArray, List.set_cons_zero, List.set_cons_succ]
        refine wpAnyH_ready (rs := [6, 10]) (by kernel_rfl) (by simp) (cons_at (i := 6) rfl (fun K6c hK6c => ?_) (cons_at (i := 10) rfl (fun K10d hK10d => ?_) AllReadyH.nil))
        · go_simp
          go_at_call 23
          with_reducible refine (CD _).mono ?_
          rintro x W4 ⟨rfl, hb4⟩
          have hb4' : Below w2.heap.size w2 W4 := below_on (Below.refl _ _).drew hb4
          have hB4 := below_on hB2 hb4'
          go_wp2_with fail
          refine hK6c.out _ _ (SB _ hB4) (fun hHeld => ?_)
          clear hK6c K6c
          try simp only [Act.put, List.setIfInBounds_toArray, List.set_cons_zero, List.set_cons_succ]
          refine take_yes (i := 7) (v := ?v7e) rfl (by kernel_rfl) (by kernel_rfl) (by kernel_rfl) (fun _ _ _ h => h) (by rfl) ?hy7e hHeld ?rest7e
          case hy7e =>
            intro w' hSw
            obtain ⟨-, -, -⟩ := hSw
            go_simp <;> with_reducible rfl
          try simp only [Act.put, List.setIfInBounds_toArray, List.set_cons_zero, List.set_cons_succ]
          refine take_yes (i := 8) (v := ?v8e) rfl (by kernel_rfl) (by kernel_rfl) (by kernel_rfl) (fun _ _ _ h => h) (by rfl) ?hy8e hHeld ?rest8e
          case hy8e =>
            intro w' hSw
            obtain ⟨-, -, -⟩ := hSw
            go_simp <;> with_reducible rfl
          try simp only [Act.put, List.setIfInBounds_toArray, List.set_cons_zero, List.set_cons_succ]
          refine take_yes (i := 9) (v := ?v9e) rfl (by kernel_rfl) (by kernel_rfl) (by kernel_rfl) (fun _ _ _ h => h) (by rfl) ?hy9e hHeld ?rest9e
          case hy9e =>
            intro w' hSw
            obtain ⟨-, -, -⟩ := hSw
            go_simp <;> with_reducible rfl
          try simp only [Act.put, List.setIfInBounds_toArray, List.set_cons_zero, List.set_cons_succ]
          refine wpAnyH_ready (rs := [10]) (by kernel_rfl) (by simp) (cons_at (i := 10) rfl (fun K10e hK10e => ?_) AllReadyH.nil)
          go_simp
          refine hK10e.out _ _ (SB _ (hB4.alloc hB4.size _)) (fun hHeld => ?_)
          clear hK10e K10e
          try simp only [Act.put, List.setIfInBounds_toArray, List.set_cons_zero, List.set_cons_succ]
          refine wpAnyH_ready (rs := [11]) (by kernel_rfl) (by simp) (cons_at (i := 11) rfl (fun K11e hK11e => ?_) AllReadyH.nil)
          refine step_store_dl rfl (.tmp 12) (.tmp 28) rfl rfl rfl (new_at W4 zD.o _ rfl) ?_
          intro W6 KD6 b6 s6
          refine hK11e.out _ _ (SB _ (b6.below (hB4.alloc hB4.size _) hB4.size)) (fun hHeld => ?_)
          clear hK11e K11e
          try simp only [Act.put, List.setIfInBounds_toArray, List.set_cons_zero, List.set_cons_succ]
          refine take_yes (i := 12) (v := ?v12e) rfl (by kernel_rfl) (by kernel_rfl) (by kernel_rfl) (fun _ _ _ h => h) (by rfl) ?hy12e hHeld ?rest12e
          case hy12e =>
            intro w' hSw
            obtain ⟨-, -, -⟩ := hSw
            go_simp <;> with_reducible rfl
          try simp only [Act.put, List.setIfInBounds_toArray, List.set_cons_zero, List.set_cons_succ]
          refine wpAnyH_done (by kernel_rfl) ?_ _
          go_wp2_with fail
          go_meet
          case rel => exact ⟨W4.heap.size, rfl, rfl, KD6, hb4'.size, (b6.below (hb4'.alloc hb4'.size _) hb4'.size)⟩
        · go_simp
          have hba : Below w2.heap.size w2 ((w2.alloc zD.o).drew) := (below1 _ _).drew
          refine hK10d.out _ _ (SB _ (below_on hB2 hba)) (fun hHeld => ?_)
          clear hK10d K10d
          try simp only [Act.put, List.setIfInBounds_toArray, List.set_cons_zero, List.set_cons_succ]
          refine wpAnyH_ready (rs := [6]) (by kernel_rfl) (by simp) (cons_at (i := 6) rfl (fun K6f hK6f => ?_) AllReadyH.nil)
          go_simp
          go_at_call 23
          with_reducible refine (CD _).mono ?_
          rintro x W4 ⟨rfl, hb4⟩
          have hb4' : Below w2.heap.size w2 W4 := below_on hba hb4
          have KD4 : W4.heap[w2.heap.size]? = some zD.o := var_on hb4 (new_at w2 zD.o _ rfl) (by simp)
          have hB4 := below_on hB2 hb4'
          go_wp2_with fail
          refine hK6f.out _ _ (SB _ hB4) (fun hHeld => ?_)
          clear hK6f K6f
          try simp only [Act.put, List.setIfInBounds_toArray, List.set_cons_zero, List.set_cons_succ]
          refine take_yes (i := 7) (v := ?v7f) rfl (by kernel_rfl) (by kernel_rfl) (by kernel_rfl) (fun _ _ _ h => h) (by rfl) ?hy7f hHeld ?rest7f
          case hy7f =>
            intro w' hSw
            obtain ⟨-, -, -⟩ := hSw
            go_simp <;> with_reducible rfl
          try simp only [Act.put, List.setIfInBounds_toArray, List.set_cons_zero, List.set_cons_succ]
          refine take_yes (i := 8) (v := ?v8f) rfl (by kernel_rfl) (by kernel_rfl) (by kernel_rfl) (fun _ _ _ h => h) (by rfl) ?hy8f hHeld ?rest8f
          case hy8f =>
            intro w' hSw
            obtain ⟨-, -, -⟩ := hSw
            go_simp <;> with_reducible rfl
          try simp only [Act.put, List.setIfInBounds_toArray, List.set_cons_zero, List.set_cons_succ]
          refine take_yes (i := 9) (v := ?v9f) rfl (by kernel_rfl) (by kernel_rfl) (by kernel_rfl) (fun _ _ _ h => h) (by rfl) ?hy9f hHeld ?rest9f
          case hy9f =>
            intro w' hSw
            obtain ⟨-, -, -⟩ := hSw
            go_simp <;> with_reducible rfl
          try simp only [Act.put, List.setIfInBounds_toArray, List.set_cons_zero, List.set_cons_succ]
          refine wpAnyH_ready (rs := [11]) (by kernel_rfl) (by simp) (cons_at (i := 11) rfl (fun K11f hK11f => ?_) AllReadyH.nil)
          refine step_store_dl rfl (.tmp 12) (.tmp 28) rfl rfl rfl KD4 ?_
          intro W6 KD6 b6 s6
          refine hK11f.out _ _ (SB _ (b6.below hB4 hB2.size)) (fun hHeld => ?_)
          clear hK11f K11f
          try simp only [Act.put, List.setIfInBounds_toArray, List.set_cons_zero, List.set_cons_succ]
          refine take_yes (i := 12) (v := ?v12f) rfl (by kernel_rfl) (by kernel_rfl) (by kernel_rfl) (fun _ _ _ h => h) (by rfl) ?hy12f hHeld ?rest12f
          case hy12f =>
            intro w' hSw
            obtain ⟨-, -, -⟩ := hSw
            go_simp <;> with_reducible rfl
          try simp only [Act.put, List.setIfInBounds_toArray, List.set_cons_zero, List.set_cons_succ]
          refine wpAnyH_done (by kernel_rfl) ?_ _
          go_wp2_with fail
          go_meet
          case rel => exact ⟨w2.heap.size, rfl, rfl, KD6, (Nat.le_refl _), (b6.below hb4' (Nat.le_refl _))⟩
      case rest =>
        obtain ⟨gd, rfl, rfl, KD, hgd, hbc⟩ := hcut
        have ho3 := owns_on ho2 hbc
        have hB3 := below_on hB2 hbc
        have hs3 := hB3.size
        have hU2 := hU.out
        clear CD SB ho2 hB2 hs2 hbc hU
        cases q
        · have eM := hid (show O ++ doO A' B' = M by rw [← hM.out, e2, hU2]; simp)
          clear hU2 e2 KD
          go_upto_region 6 with fail
          go_quiet (fail)
          go_wp2_with fail
          go_roundw
          case rel => exact ⟨A', B', O, _, _, _, _, _, _, rfl, rfl, HTA, HTB, hna', hnb', by omega, by omega, eM, by omega, owns_drewN ho3 _, below_drewN hB3 _⟩
          case measure => simp [lenV]; omega
        · have eM := hid (show (O ++ [(⟨2, d.id, zT, d⟩ : Ev)]) ++ doO A' B' = M by rw [← hM.out, e2, hU2]; simp)
          have cd := (cells_at KD).1 0
          have HKD := hid KD
          have cd0 : wc.cell? ⟨gd, 0, none⟩ = some (.int .i64 d.id) := cd
          clear hU2 e2 KD cd
          go_upto_region 6 with (first
            | (with_reducible refine wpList_load_dl rfl (.tmp 12) rfl rfl HKD.out ?_)
            | ((with_reducible refine wpList_build_2 ?_ (.const (.int .i64 2)) (.tmp 33) (.tmp 34) rfl rfl rfl rfl ?_); · rfl)
            | (at_builtin; refine wpList_append_lies _ rfl _ _ 28 rfl W2.heap.size 44 i0 zE.v 25 264 Try.underlying28 hi hz0 hz1 hz2 rfl (by decide) _ _ _ rfl (ho3.alloc _) ⟨wc.heap.size, 0, none⟩ 1 1 (⟨2, d.id, zT, d⟩ : Ev).cs rfl rfl (World.news_of_block (heap_alloc_new _ _)) (evs_cell ⟨2, d.id, zT, d⟩) (by decide) (by unfold maxLen; omega) (by omega) (by simp; omega) (wc.heap.size + 1) (by simp) ?_; intro g5 cap5 W5 hown5 hgrow5 hat5 hg5))
          have hB5 : Below W2.heap.size W2 W5 := (hB3.alloc hs3 _).grown hgrow5 (by simp; omega) (fun k hk => (ho3.lt k hk).1)
          clear hgrow5 hat5 hg5 ho3 hB3 hs3 cd0
          go_quiet (fail)
          go_wp2_with fail
          go_roundw
          case rel => exact ⟨A', B', O ++ [(⟨2, d.id, zT, d⟩ : Ev)], _, _, _, _, _, _, rfl, rfl, HTA, HTB, hna', hnb', by omega, by omega, eM, by simp; omega, owns_drewN (by rw [flatE_append, flatE_one, List.length_append]; exact hown5) _, below_drewN hB5 _⟩
          case measure => simp [lenV]; omega
end
section
open Go.RowKit
set_option linter.unusedVariables false
set_option linter.unusedSimpArgs false
theorem drop_cases {α : Type} (A : List α) (i : Nat) : (A.drop i = [] ∧ A.length ≤ i) ∨ ∃ a, A[i]? = some a ∧ A.drop i = a :: A.drop (i + 1) ∧ i < A.length := by
  by_cases h : i < A.length
  · exact .inr ⟨A[i], List.getElem?_eq_getElem h, List.drop_eq_getElem_cons h, h⟩
  · exact .inl ⟨List.drop_of_length_le (by omega), by omega⟩
theorem upE_dK {a b : Th} {y : Dl} {q : Bool} (h1 : dK a b 4 = y) (h2 : decide (¬ y.m = 0) = q) : upE a b = if q = true then [(⟨2, y.id, zT, y⟩ : Ev)] else [] := by
  have hd : diff a b = if y.m = 0 then (zD, false) else (y, true) := by unfold diff; rw [h1]
  subst h2
  by_cases h0 : y.m = 0
  · rw [if_pos h0] at hd; rw [upE_no hd]; simp [h0]
  · rw [if_neg h0] at hd; rw [upE_yes hd]; simp [h0]
def RfRel (W2 : World) (A B : List Th) (M : List Ev) (s11 s12 s13 : Value) (wr : World) : Prop := ∃ (i k : Nat) (O : List Ev), s12 = .int .i64 (i : Nat) ∧ s13 = .int .i64 (k : Nat) ∧ i ≤ A.length ∧ k ≤ B.length ∧ Hid (O ++ doO (A.drop i) (B.drop k) = M) ∧ O.length ≤ i + k ∧ wr.ownsRow W2.heap.size 44 25 s11 O.length (flatE O) ∧ Below W2.heap.size W2 wr
set_option maxRecDepth 100000 in
set_option maxHeartbeats 8000000 in
theorem ref_diff15 {w : World} {p p' : Option Addr} {cap cap' n n' : Nat} {L L' : List Th} {r r' : Rc} (hr : RowT w p L) (hr' : RowT w p' L') (hn : Hid (L.length = n)) (hn' : Hid (L'.length = n')) (hl : n ≤ 400) (hl' : n' ≤ 400) {M : List Ev} (hM : Hid (doO (seenL r L) (seenL r' L') = M)) {m : Nat} (hm : Hid (M.length = m)) :
    Calls Try.prog 13 #[.slice p n cap, rc r.x0 r.y0 r.x1 r.y1, .slice p' n' cap', rc r'.x0 r'.y0 r'.x1 r'.y1] w (OfPost w M m) := by
  obtain ⟨i0, hi, hz0, hz1, hz2⟩ := info_parts3 Try.infoEv
  obtain ⟨W0, hW0⟩ : ∃ W0, (w.alloc (rcO r.x0 r.y0 r.x1 r.y1)).alloc (rcO r'.x0 r'.y0 r'.x1 r'.y1) = W0 := ⟨_, rfl⟩
  have hE : Below w.heap.size w W0 := by rw [← hW0]; exact Go.Joins.below_alloc2 _ _ _
  have K := hid (show W0.heap[w.heap.size]? = some (rcO r.x0 r.y0 r.x1 r.y1) by rw [← hW0]; exact old_at (new_at _ _ _ rfl) _)
  have K' := hid (show W0.heap[w.heap.size + 1]? = some (rcO r'.x0 r'.y0 r'.x1 r'.y1) by rw [← hW0]; exact new_at _ _ _ (by simp))
  have HR := hid (hr.later hE)
  have HR' := hid (hr'.later hE)
  clear hr hr'
  obtain ⟨g0, hg0⟩ : ∃ g, Hid (w.heap.size = g) := ⟨_, rfl⟩
  obtain ⟨na, hna⟩ : ∃ k, Hid ((seenL r L).length = k) := ⟨_, rfl⟩
  obtain ⟨nb, hnb⟩ : ∃ k, Hid ((seenL r' L').length = k) := ⟨_, rfl⟩
  have lna : na ≤ 400 := by have := seen_len r L; rw [hna.out, hn.out] at this; omega
  have lnb : nb ≤ 400 := by have := seen_len r' L'; rw [hnb.out, hn'.out] at this; omega
  obtain ⟨A, hA⟩ : ∃ A, Hid (seenL r L = A) := ⟨_, rfl⟩
  obtain ⟨B, hB⟩ : ∃ B, Hid (seenL r' L' = B) := ⟨_, rfl⟩
  obtain ⟨Q, hQ⟩ : ∃ Q, Hid (OfPost w M m = Q) := ⟨_, rfl⟩
  rw [hQ.out]
  rw [hA.out] at hna hM
  rw [hB.out] at hnb hM
  go_enter Try.func13, Try.ntmps13
  go_upto_region 1 with fail
  try rw [hW0]
  clear hW0
  rw [hg0.out] at K K' ⊢
  have hE0 := hid hE
  clear hE
  have c := (cells_at K.out).1
  have c' := (cells_at K'.out).1
  have S0 : W0.cell? ⟨g0, 0, none⟩ = some (.int .i64 r.x0) ∧ W0.cell? ⟨g0, 1, none⟩ = some (.int .i64 r.y0) ∧ W0.cell? ⟨g0, 2, none⟩ = some (.int .i64 r.x1) ∧ W0.cell? ⟨g0, 3, none⟩ = some (.int .i64 r.y1) ∧ W0.cell? ⟨g0 + 1, 0, none⟩ = some (.int .i64 r'.x0) ∧ W0.cell? ⟨g0 + 1, 1, none⟩ = some (.int .i64 r'.y0) ∧ W0.cell? ⟨g0 + 1, 2, none⟩ = some (.int .i64 r'.x1) ∧ W0.cell? ⟨g0 + 1, 3, none⟩ = some (.int .i64 r'.y1) := ⟨c 0, c 1, c 2, c 3, c' 0, c' 1, c' 2, c' 3⟩
  clear c c' K K'
  go_wp2_with fail
  refine wp_region_held_drew (S := fun w' => Below W0.heap.size W0 w' ∧ w'.cell? ⟨g0, 0, none⟩ = some (.int .i64 r.x0) ∧ w'.cell? ⟨g0, 1, none⟩ = some (.int .i64 r.y0) ∧ w'.cell? ⟨g0, 2, none⟩ = some (.int .i64 r.x1) ∧ w'.cell? ⟨g0, 3, none⟩ = some (.int .i64 r.y1) ∧ w'.cell? ⟨g0 + 1, 0, none⟩ = some (.int .i64 r'.x0) ∧ w'.cell? ⟨g0 + 1, 1, none⟩ = some (.int .i64 r'.y0) ∧ w'.cell? ⟨g0 + 1, 2, none⟩ = some (.int .i64 r'.x1) ∧ w'.cell? ⟨g0 + 1, 3, none⟩ = some (.int .i64 r'.y1)) (by kernel_rfl) ⟨(Below.refl _ _).drew, S0⟩ (fun hHeld => ?_)
  refine take_yes (i := 0) (v := ?v0a) rfl (by kernel_rfl) (by kernel_rfl) (by kernel_rfl) (fun _ _ _ h => h) (by rfl) ?hy0a hHeld ?rest0a
  case hy0a =>
    intro w' hSw
    obtain ⟨-, s0, s1, s2, s3, s4, s5, s6, s7⟩ := hSw
    go_simp <;> with_reducible rfl
  try simp only [Act.put, List.setIfInBounds_toArray, List.set_cons_zero, List.set_cons_succ]
  refine take_yes (i := 1) (v := ?v1a) rfl (by kernel_rfl) (by kernel_rfl) (by kernel_rfl) (fun _ _ _ h => h) (by rfl) ?hy1a hHeld ?rest1a
  case hy1a =>
    intro w' hSw
    obtain ⟨-, s0, s1, s2, s3, s4, s5, s6, s7⟩ := hSw
    go_simp <;> with_reducible rfl
  try simp only [Act.put, List.setIfInBounds_toArray, List.set_cons_zero, List.set_cons_succ]
  refine take_yes (i := 3) (v := ?v3a) rfl (by kernel_rfl) (by kernel_rfl) (by kernel_rfl) (fun _ _ _ h => h) (by rfl) ?hy3a hHeld ?rest3a
  case hy3a =>
    intro w' hSw
    obtain ⟨-, s0, s1, s2, s3, s4, s5, s6, s7⟩ := hSw
    go_simp <;> with_reducible rfl
  try simp only [Act.put, List.setIfInBounds_toArray, List.set_cons_zero, List.set_cons_succ]
  refine take_yes (i := 4) (v := ?v4a) rfl (by kernel_rfl) (by kernel_rfl) (by kernel_rfl) (fun _ _ _ h => h) (by rfl) ?hy4a hHeld ?rest4a
  case hy4a =>
    intro w' hSw
    obtain ⟨-, s0, s1, s2, s3, s4, s5, s6, s7⟩ := hSw
    go_simp <;> with_reducible rfl
  try simp only [Act.put, List.setIfInBounds_toArray, List.set_cons_zero, List.set_cons_succ]
  refine wpAnyH_ready (rs := [2]) (by kernel_rfl) (by simp) (cons_at (i := 2) rfl (fun K2a hK2a => ?_) AllReadyH.nil)
  go_simp
  go_at_call 16
  with_reducible refine (ref_seen (HR.out.later hHeld.1) hn hl hA hna).mono ?_
  rintro x W1 ⟨pa, ca, rfl, hoa0, hb10⟩
  have hoa := hoa0.mono hHeld.1.size
  obtain ⟨hq1, t10, t11, t12, t13, t14, t15, t16, t17⟩ := hHeld
  have hb1 := below_on hq1 hb10
  have SS1 := (⟨hb1, cell_below hb10 t10, cell_below hb10 t11, cell_below hb10 t12, cell_below hb10 t13, cell_below hb10 t14, cell_below hb10 t15, cell_below hb10 t16, cell_below hb10 t17⟩ : (Below W0.heap.size W0 W1 ∧ W1.cell? ⟨g0, 0, none⟩ = some (.int .i64 r.x0) ∧ W1.cell? ⟨g0, 1, none⟩ = some (.int .i64 r.y0) ∧ W1.cell? ⟨g0, 2, none⟩ = some (.int .i64 r.x1) ∧ W1.cell? ⟨g0, 3, none⟩ = some (.int .i64 r.y1) ∧ W1.cell? ⟨g0 + 1, 0, none⟩ = some (.int .i64 r'.x0) ∧ W1.cell? ⟨g0 + 1, 1, none⟩ = some (.int .i64 r'.y0) ∧ W1.cell? ⟨g0 + 1, 2, none⟩ = some (.int .i64 r'.x1) ∧ W1.cell? ⟨g0 + 1, 3, none⟩ = some (.int .i64 r'.y1)))
  clear hq1 t10 t11 t12 t13 t14 t15 t16 t17
  go_wp2_with fail
  refine hK2a.out _ _ SS1 (fun hHeld => ?_)
  clear hK2a K2a
  try simp only [Act.put, List.setIfInBounds_toArray, List.set_cons_zero, List.set_cons_succ]
  refine wpAnyH_ready (rs := [5]) (by kernel_rfl) (by simp) (cons_at (i := 5) rfl (fun K5a hK5a => ?_) AllReadyH.nil)
  go_simp
  go_at_call 16
  with_reducible refine (ref_seen (HR'.out.later hHeld.1) hn' hl' hB hnb).mono ?_
  rintro x W2 ⟨pb, cb, rfl, hob0, hb2x0⟩
  have hob := hob0.mono hHeld.1.size
  obtain ⟨hq2, t20, t21, t22, t23, t24, t25, t26, t27⟩ := hHeld
  have hb2x := below_on hq2 hb2x0
  have SS2 := (⟨hb2x, cell_below hb2x0 t20, cell_below hb2x0 t21, cell_below hb2x0 t22, cell_below hb2x0 t23, cell_below hb2x0 t24, cell_below hb2x0 t25, cell_below hb2x0 t26, cell_below hb2x0 t27⟩ : (Below W0.heap.size W0 W2 ∧ W2.cell? ⟨g0, 0, none⟩ = some (.int .i64 r.x0) ∧ W2.cell? ⟨g0, 1, none⟩ = some (.int .i64 r.y0) ∧ W2.cell? ⟨g0, 2, none⟩ = some (.int .i64 r.x1) ∧ W2.cell? ⟨g0, 3, none⟩ = some (.int .i64 r.y1) ∧ W2.cell? ⟨g0 + 1, 0, none⟩ = some (.int .i64 r'.x0) ∧ W2.cell? ⟨g0 + 1, 1, none⟩ = some (.int .i64 r'.y0) ∧ W2.cell? ⟨g0 + 1, 2, none⟩ = some (.int .i64 r'.x1) ∧ W2.cell? ⟨g0 + 1, 3, none⟩ = some (.int .i64 r'.y1)))
  have hb12 : Below W1.heap.size W1 W2 := (Below.refl _ _).trans (hb2x0.mono (Nat.le_refl _))
  clear hq2 t20 t21 t22 t23 t24 t25 t26 t27
  go_wp2_with fail
  refine hK5a.out _ _ SS2 (fun hHeld => ?_)
  clear hK5a K5a
  try simp only [Act.put, List.setIfInBounds_toArray, List.set_cons_zero, List.set_cons_succ]
  refine take_yes (i := 6) (v := ?v6a) rfl (by kernel_rfl) (by kernel_rfl) (by kernel_rfl) (fun _ _ _ h => h) (by rfl) ?hy6a hHeld ?rest6a
  case hy6a =>
    intro w' hSw
    obtain ⟨-, s0, s1, s2, s3, s4, s5, s6, s7⟩ := hSw
    go_simp <;> with_reducible rfl
  try simp only [Act.put, List.setIfInBounds_toArray, List.set_cons_zero, List.set_cons_succ]
  refine take_yes (i := 7) (v := ?v7a) rfl (by kernel_rfl) (by kernel_rfl) (by kernel_rfl) (fun _ _ _ h => h) (by rfl) ?hy7a hHeld ?rest7a
  case hy7a =>
    intro w' hSw
    obtain ⟨-, s0, s1, s2, s3, s4, s5, s6, s7⟩ := hSw
    go_simp <;> with_reducible rfl
  try simp only [Act.put, List.setIfInBounds_toArray, List.set_cons_zero, List.set_cons_succ]
  refine wpAnyH_done (by kernel_rfl) ?_ _
  obtain ⟨hb2, -⟩ := hHeld
  have ho1 := owns_on hoa hb12
  have RA0 := hid (row_own ho1 hna.out.symm)
  have RB0 := hid (row_own hob hnb.out.symm)
  have ca1 := owns_cap hoa
  have cb1 := owns_cap hob
  have hE2 := hid (below_on hE0.out hb2)
  clear hoa hob ho1 hb12 hb2 hb1 HR HR' S0 hE0 hA hB hn hn' SS1 SS2 hoa0 hob0 hb10 hb2x0 hb2x
  have hlA : A.length = na := hna.out
  have hlB : B.length = nb := hnb.out
  go_wp2_with fail
  go_loopw [11, 12, 13] (fun s11 s12 s13 wr => RfRel W2 A B M s11 s12 s13 wr) (fun _ s12 s13 _ => (na - (intOf s12).toNat) + (nb - (intOf s13).toNat))
  case atStart => exact ⟨0, 0, [], rfl, rfl, by omega, by omega, hM, by simp, World.ownsRow_nil _ _ _ _, Below.refl _ _⟩
  case round =>
    clear hM
    have RA := RA0
    have RB := RB0
    obtain ⟨i, k, O, rfl, rfl, hi1, hk1, hM, hlen, ho, hb⟩ := hrel
    rw [hlA] at hi1
    rw [hlB] at hk1
    obtain ⟨p5, c5, rfl⟩ := owns_slice ho
    have hs := hb.size
    rcases drop_cases A i with ⟨dA, hle⟩ | ⟨a, ga, dA, hlt⟩
    · obtain rfl : i = na := by omega
      rcases drop_cases B k with ⟨dB, hle'⟩ | ⟨b, gb, dB, hlt'⟩
      · obtain rfl : k = nb := by omega
        obtain rfl : O = M := by have := hM.out; rw [dA, dB, doO_n, List.append_nil] at this; exact this
        have ho' := ho
        rw [hm.out] at ho
        have hm2 := hid hm.out
        have HE6 := hid (show OfPost w O m (.returned (.slice p5 m c5)) wr from ⟨p5, c5, rfl, ho.mono hE2.out.size, below_on hE2.out hb⟩)
        clear ho ho' hb hs dA dB hle hle' hlA hlB hna hnb hM hlen
        go_wp2_with fail
        rw [← hQ.out]
        rw [hm2.out]
        exact HE6.out
      · have e1 : ((k : Int) == (nb : Int)) = false := by simp; omega
        have e1' : decide (k < nb) = true := by simp; omega
        have eM := hid (show (O ++ [enE b]) ++ doO (A.drop i) (B.drop (k + 1)) = M by rw [← hM.out, dA, dB, doO_e0]; simp)
        clear hM dA
        obtain ⟨bb, ob, hpb, cB⟩ := RB.out.at (k := k) (t := b) gb
        subst hpb
        have cB0 := (cellsT_later cB hb).1
        have lB : (k : Int) < (nb : Int) := by omega
        go_upto_region 10 with fail
        go_quiet (fail)
        obtain ⟨V10, hV10⟩ : ∃ V, wr.drewN nq = V := ⟨_, rfl⟩
        have bV10 : Below wr.heap.size wr V10 := by rw [← hV10]; exact below_drewN (Below.refl _ _) _
        try rw [hV10]
        clear hV10
        have ho2 := owns_on ho bV10
        have hB2 := below_on hb bV10
        clear cB0 ho hb hs bV10
        have cB0 := (cellsT_later cB hB2).1
        go_upto_region 13 with fail
        go_quiet (fail)
        obtain ⟨V13, hV13⟩ : ∃ V, V10.drewN nq = V := ⟨_, rfl⟩
        have bV13 : Below V10.heap.size V10 V13 := by rw [← hV13]; exact below_drewN (Below.refl _ _) _
        try rw [hV13]
        clear hV13
        have ho3 := owns_on ho2 bV13
        have hB3 := below_on hB2 bV13
        have hs3 := hB3.size
        clear cB0 ho2 hB2 bV13
        have SB : ∀ wx : World, Below W2.heap.size W2 wx → (Below W2.heap.size W2 wx ∧ wx.cell? ⟨bb, ob + k * 11, none⟩ = some (.int .i64 b.id) ∧ wx.rangeAt bb (ob + k * 11) b.cs) := fun wx hx => ⟨hx, (cellsT_later cB hx).1, range_th (cellsT_later cB hx)⟩
        clear cB
        go_wp2_with fail
        refine wp_region_held_drew (S := fun w' => Below W2.heap.size W2 w' ∧ w'.cell? ⟨bb, ob + k * 11, none⟩ = some (.int .i64 b.id) ∧ w'.rangeAt bb (ob + k * 11) b.cs) (by kernel_rfl) (SB _ hB3.drew) (fun hHeld => ?_)
        refine take_yes (i := 0) (v := ?v0b) rfl (by kernel_rfl) (by kernel_rfl) (by kernel_rfl) (fun _ _ _ h => h) (by rfl) ?hy0b hHeld ?rest0b
        case hy0b =>
          intro w' hSw
          obtain ⟨-, s0, -⟩ := hSw
          go_simp <;> with_reducible rfl
        try simp only [Act.put, List.setIfInBounds_toArray, List.set_cons_zero, List.set_cons_succ]
        refine take_yes (i := 1) (v := ?v1b) rfl (by kernel_rfl) (by kernel_rfl) (by kernel_rfl) (fun _ _ _ h => h) (by rfl) ?hy1b hHeld ?rest1b
        case hy1b =>
          intro w' hSw
          obtain ⟨-, s0, -⟩ := hSw
          go_simp <;> with_reducible rfl
        try simp only [Act.put, List.setIfInBounds_toArray, List.set_cons_zero, List.set_cons_succ]
        refine take_yes (i := 2) (v := ?v2b) rfl (by kernel_rfl) (by kernel_rfl) (by kernel_rfl) (fun _ _ _ h => h) (by rfl) ?hy2b hHeld ?rest2b
        case hy2b =>
          intro w' hSw
          obtain ⟨-, s0, -⟩ := hSw
          go_simp <;> with_reducible rfl
        try simp only [Act.put, List.setIfInBounds_toArray, List.set_cons_zero, List.set_cons_succ]
        refine take_yes (i := 3) (v := ?v3b) rfl (by kernel_rfl) (by kernel_rfl) (by kernel_rfl) (fun _ _ _ h => h) (by rfl) ?hy3b hHeld ?rest3b
        case hy3b =>
          intro w' hSw
          obtain ⟨-, s0, -⟩ := hSw
          go_simp <;> with_reducible rfl
        try simp only [Act.put, List.setIfInBounds_toArray, List.set_cons_zero, List.set_cons_succ]
        refine take_yes (i := 4) (v := ?v4b) rfl (by kernel_rfl) (by kernel_rfl) (by kernel_rfl) (fun _ _ _ h => h) (by rfl) ?hy4b hHeld ?rest4b
        case hy4b =>
          intro w' hSw
          obtain ⟨-, s0, -⟩ := hSw
          go_simp <;> with_reducible rfl
        try simp only [Act.put, List.setIfInBounds_toArray, List.set_cons_zero, List.set_cons_succ]
        refine take_yes (i := 5) (v := ?v5b) rfl (by kernel_rfl) (by kernel_rfl) (by kernel_rfl) (fun _ _ _ h => h) (by rfl) ?hy5b hHeld ?rest5b
        case hy5b =>
          intro w' hSw
          obtain ⟨-, s0, -⟩ := hSw
          go_simp <;> with_reducible rfl
        try simp only [Act.put, List.setIfInBounds_toArray, List.set_cons_zero, List.set_cons_succ]
        refine take_yes (i := 6) (v := ?v6b) rfl (by kernel_rfl) (by kernel_rfl) (by kernel_rfl) (fun _ _ _ h => h) (by rfl) ?hy6b hHeld ?rest6b
        case hy6b =>
          intro w' hSw
          obtain ⟨-, s0, -⟩ := hSw
          go_simp <;> with_reducible rfl
        try simp only [Act.put, List.setIfInBounds_toArray, List.set_cons_zero, List.set_cons_succ]
        refine take_yes (i := 7) (v := ?v7b) rfl (by kernel_rfl) (by kernel_rfl) (by kernel_rfl) (fun _ _ _ h => h) (by rfl) ?hy7b hHeld ?rest7b
        case hy7b =>
          intro w' hSw
          obtain ⟨-, s0, -⟩ := hSw
          go_simp <;> with_reducible rfl
        try simp only [Act.put, List.setIfInBounds_toArray, List.set_cons_zero, List.set_cons_succ]
        refine take_yes (i := 8) (v := ?v8b) rfl (by kernel_rfl) (by kernel_rfl) (by kernel_rfl) (fun _ _ _ h => h) (by rfl) ?hy8b hHeld ?rest8b
        case hy8b =>
          intro w' hSw
          obtain ⟨-, s0, -⟩ := hSw
          go_simp <;> with_reducible rfl
        try simp only [Act.put, List.setIfInBounds_toArray, List.set_cons_zero, List.set_cons_succ]
        refine take_yes (i := 9) (v := _) rfl (by kernel_rfl) (by kernel_rfl) (by kernel_rfl) (fun _ _ _ h => h) (by rfl) (fun w' hSw => exec_load_mid_th (.tmp 117) rfl rfl hSw.2.2) hHeld ?rest9b
        try simp only [Act.put, List.setIfInBounds_toArray, List.set_cons_zero, List.set_cons_succ]
        refine take_yes (i := 10) (v := _) rfl (by kernel_rfl) (by kernel_rfl) (by kernel_rfl) (fun _ _ _ h => h) (by rfl) (fun w' hSw => exec_build_1 (m := 1) (i := b.id) (t := b) (.const (.int .i64 1)) (.tmp 114) (.tmp 118) rfl rfl rfl rfl) hHeld ?rest10b
        try simp only [Act.put, List.setIfInBounds_toArray, List.set_cons_zero, List.set_cons_succ]
        refine wpAnyH_ready (rs := [11]) (by kernel_rfl) (by simp) (cons_at (i := 11) rfl (fun K11b hK11b => ?_) AllReadyH.nil)
        go_simp
        refine hK11b.out _ _ (SB _ (hB3.alloc hs3 _).drew) (fun hHeld => ?_)
        clear hK11b K11b
        try simp only [Act.put, List.setIfInBounds_toArray, List.set_cons_zero, List.set_cons_succ]
        refine wpAnyH_ready (rs := [12]) (by kernel_rfl) (by simp) (cons_at (i := 12) rfl (fun K12b hK12b => ?_) AllReadyH.nil)
        refine step_append_lies _ rfl (.tmp 109) (.tmp 120) 28 rfl W2.heap.size 44 i0 zE.v 25 264 Try.underlying28 hi hz0 hz1 hz2 rfl (by decide) _ _ _ rfl ((ho3.alloc _).drew) ⟨V13.heap.size, 0, none⟩ 1 1 (enE b).cs rfl rfl (World.news_of_block (heap_alloc_new _ _)) (evs_cell (enE b)) (by decide) (by unfold maxLen; omega) (by omega) (by simp; omega) (V13.heap.size + 1) (by simp) ?_
        intro g5 cap5 W5 hown5 hgrow5 hat5 hg5
        have hB5 : Below W2.heap.size W2 W5 := ((hB3.alloc hs3 _).drew).grown hgrow5 (by simp; omega) (fun k hk => (ho3.lt k hk).1)
        refine hK12b.out _ _ (SB _ hB5) (fun hHeld => ?_)
        clear hK12b K12b
        try simp only [Act.put, List.setIfInBounds_toArray, List.set_cons_zero, List.set_cons_succ]
        refine take_yes (i := 13) (v := ?v13b) rfl (by kernel_rfl) (by kernel_rfl) (by kernel_rfl) (fun _ _ _ h => h) (by rfl) ?hy13b hHeld ?rest13b
        case hy13b =>
          intro w' hSw
          obtain ⟨-, s0, -⟩ := hSw
          go_simp <;> with_reducible rfl
        try simp only [Act.put, List.setIfInBounds_toArray, List.set_cons_zero, List.set_cons_succ]
        refine wpAnyH_done (by kernel_rfl) ?_ _
        clear hHeld SB
        go_wp2_with fail
        go_roundw
        case rel => exact ⟨i, k + 1, O ++ [enE b], rfl, by go_num, by omega, by omega, eM, by simp; omega, by rw [flatE_append, flatE_one, List.length_append]; exact hown5, hB5⟩
        case measure => simp [intOf]; omega
    · rcases drop_cases B k with ⟨dB, hle'⟩ | ⟨b, gb, dB, hlt'⟩
      · obtain rfl : k = nb := by omega
        have e2 : decide (i < na) = true := by simp; omega
        have eM := hid (show (O ++ [leE a]) ++ doO (A.drop (i + 1)) (B.drop k) = M by rw [← hM.out, dA, dB, doO_l0]; simp)
        clear hM dB
        obtain ⟨ba, oa, hpa, cA⟩ := RA.out.at (k := i) (t := a) ga
        subst hpa
        have cA0 := (cellsT_later cA hb).1
        have lA : (i : Int) < (na : Int) := by omega
        go_upto_region 10 with fail
        go_quiet (fail)
        obtain ⟨V10, hV10⟩ : ∃ V, wr.drewN nq = V := ⟨_, rfl⟩
        have bV10 : Below wr.heap.size wr V10 := by rw [← hV10]; exact below_drewN (Below.refl _ _) _
        try rw [hV10]
        clear hV10
        have ho2 := owns_on ho bV10
        have hB2 := below_on hb bV10
        have hs2 := hB2.size
        have cA2 := (cellsT_later cA hB2).1
        clear cA0 ho hb hs bV10 cA
        go_wp2_with (first
          | ((with_reducible refine wpList_build_3 ?_ (.const (.int .i64 3)) (.tmp 85) rfl rfl rfl ?_); · rfl)
          | (at_builtin; refine wpList_append_lies _ rfl _ _ 28 rfl W2.heap.size 44 i0 zE.v 25 264 Try.underlying28 hi hz0 hz1 hz2 rfl (by decide) _ _ _ rfl (ho2.alloc _) ⟨V10.heap.size, 0, none⟩ 1 1 (leE a).cs rfl rfl (World.news_of_block (heap_alloc_new _ _)) (evs_cell (leE a)) (by decide) (by unfold maxLen; omega) (by omega) (by simp; omega) (V10.heap.size + 1) (by simp) ?_; intro g5 cap5 W5 hown5 hgrow5 hat5 hg5))
        go_roundw
        case rel => exact ⟨i + 1, k, O ++ [leE a], by go_num, rfl, by omega, by omega, eM, by simp; omega, by rw [flatE_append, flatE_one, List.length_append]; exact hown5, (hB2.alloc hs2 _).grown hgrow5 (by simp; omega) (fun k hk => (ho2.lt k hk).1)⟩
        case measure => simp [intOf]; omega
      · have e1 : ((k : Int) == (nb : Int)) = false := by simp; omega
        have e2 : decide (i < na) = true := by simp; omega
        have e4 : ((i : Int) == (na : Int)) = false := by simp; omega
        have lA : (i : Int) < (na : Int) := by omega
        have lB : (k : Int) < (nb : Int) := by omega
        by_cases h1 : a.id < b.id
        · have e3 : decide (a.id < b.id) = true := by simpa using h1
          have eM := hid (show (O ++ [leE a]) ++ doO (A.drop (i + 1)) (B.drop k) = M by rw [← hM.out, dA, dB, doO_l _ _ h1]; simp)
          clear hM h1
          obtain ⟨ba, oa, hpa, cA⟩ := RA.out.at (k := i) (t := a) ga
          subst hpa
          have cA0 := (cellsT_later cA hb).1
          obtain ⟨bb, ob, hpb, cB⟩ := RB.out.at (k := k) (t := b) gb
          subst hpb
          have cB0 := (cellsT_later cB hb).1
          go_upto_region 10 with fail
          go_quiet (fail)
          obtain ⟨V10, hV10⟩ : ∃ V, wr.drewN nq = V := ⟨_, rfl⟩
          have bV10 : Below wr.heap.size wr V10 := by rw [← hV10]; exact below_drewN (Below.refl _ _) _
          try rw [hV10]
          clear hV10
          have ho2 := owns_on ho bV10
          have hB2 := below_on hb bV10
          have hs2 := hB2.size
          have cA2 := (cellsT_later cA hB2).1
          clear cA0 ho hb hs bV10 cA cB0 cB
          go_wp2_with (first
            | ((with_reducible refine wpList_build_3 ?_ (.const (.int .i64 3)) (.tmp 85) rfl rfl rfl ?_); · rfl)
            | (at_builtin; refine wpList_append_lies _ rfl _ _ 28 rfl W2.heap.size 44 i0 zE.v 25 264 Try.underlying28 hi hz0 hz1 hz2 rfl (by decide) _ _ _ rfl (ho2.alloc _) ⟨V10.heap.size, 0, none⟩ 1 1 (leE a).cs rfl rfl (World.news_of_block (heap_alloc_new _ _)) (evs_cell (leE a)) (by decide) (by unfold maxLen; omega) (by omega) (by simp; omega) (V10.heap.size + 1) (by simp) ?_; intro g5 cap5 W5 hown5 hgrow5 hat5 hg5))
          go_roundw
          case rel => exact ⟨i + 1, k, O ++ [leE a], by go_num, rfl, by omega, by omega, eM, by simp; omega, by rw [flatE_append, flatE_one, List.length_append]; exact hown5, (hB2.alloc hs2 _).grown hgrow5 (by simp; omega) (fun k hk => (ho2.lt k hk).1)⟩
          case measure => simp [intOf]; omega
        · have e3 : decide (a.id < b.id) = false := by simpa using h1
          by_cases h2 : b.id < a.id
          · have e5 : decide (b.id < a.id) = true := by simpa using h2
            have eM := hid (show (O ++ [enE b]) ++ doO (A.drop i) (B.drop (k + 1)) = M by rw [← hM.out, dA, dB, doO_e _ _ h2]; simp)
            clear hM h1 h2
            obtain ⟨bb, ob, hpb, cB⟩ := RB.out.at (k := k) (t := b) gb
            subst hpb
            have cB0 := (cellsT_later cB hb).1
            obtain ⟨ba, oa, hpa, cA⟩ := RA.out.at (k := i) (t := a) ga
            subst hpa
            have cA0 := (cellsT_later cA hb).1
            go_upto_region 10 with fail
            go_quiet (fail)
            obtain ⟨V10, hV10⟩ : ∃ V, wr.drewN nq = V := ⟨_, rfl⟩
            have bV10 : Below wr.heap.size wr V10 := by rw [← hV10]; exact below_drewN (Below.refl _ _) _
            try rw [hV10]
            clear hV10
            have ho2 := owns_on ho bV10
            have hB2 := below_on hb bV10
            clear cB0 ho hb hs bV10 cA0
            have cA0 := (cellsT_later cA hB2).1
            have cB0 := (cellsT_later cB hB2).1
            go_upto_region 13 with fail
            go_quiet (fail)
            obtain ⟨V13, hV13⟩ : ∃ V, V10.drewN nq = V := ⟨_, rfl⟩
            have bV13 : Below V10.heap.size V10 V13 := by rw [← hV13]; exact below_drewN (Below.refl _ _) _
            try rw [hV13]
            clear hV13
            have ho3 := owns_on ho2 bV13
            have hB3 := below_on hB2 bV13
            have hs3 := hB3.size
            clear cB0 ho2 hB2 bV13 cA0 cA
            have SB : ∀ wx : World, Below W2.heap.size W2 wx → (Below W2.heap.size W2 wx ∧ wx.cell? ⟨bb, ob + k * 11, none⟩ = some (.int .i64 b.id) ∧ wx.rangeAt bb (ob + k * 11) b.cs) := fun wx hx => ⟨hx, (cellsT_later cB hx).1, range_th (cellsT_later cB hx)⟩
            clear cB
            go_wp2_with fail
            refine wp_region_held_drew (S := fun w' => Below W2.heap.size W2 w' ∧ w'.cell? ⟨bb, ob + k * 11, none⟩ = some (.int .i64 b.id) ∧ w'.rangeAt bb (ob + k * 11) b.cs) (by kernel_rfl) (SB _ hB3.drew) (fun hHeld => ?_)
            refine take_yes (i := 0) (v := ?v0g) rfl (by kernel_rfl) (by kernel_rfl) (by kernel_rfl) (fun _ _ _ h => h) (by rfl) ?hy0g hHeld ?rest0g
            case hy0g =>
              intro w' hSw
              obtain ⟨-, s0, -⟩ := hSw
              go_simp <;> with_reducible rfl
            try simp only [Act.put, List.setIfInBounds_toArray, List.set_cons_zero, List.set_cons_succ]
            refine take_yes (i := 1) (v := ?v1g) rfl (by kernel_rfl) (by kernel_rfl) (by kernel_rfl) (fun _ _ _ h => h) (by rfl) ?hy1g hHeld ?rest1g
            case hy1g =>
              intro w' hSw
              obtain ⟨-, s0, -⟩ := hSw
              go_simp <;> with_reducible rfl
            try simp only [Act.put, List.setIfInBounds_toArray, List.set_cons_zero, List.set_cons_succ]
            refine take_yes (i := 2) (v := ?v2g) rfl (by kernel_rfl) (by kernel_rfl) (by kernel_rfl) (fun _ _ _ h => h) (by rfl) ?hy2g hHeld ?rest2g
            case hy2g =>
              intro w' hSw
              obtain ⟨-, s0, -⟩ := hSw
              go_simp <;> with_reducible rfl
            try simp only [Act.put, List.setIfInBounds_toArray, List.set_cons_zero, List.set_cons_succ]
            refine take_yes (i := 3) (v := ?v3g) rfl (by kernel_rfl) (by kernel_rfl) (by kernel_rfl) (fun _ _ _ h => h) (by rfl) ?hy3g hHeld ?rest3g
            case hy3g =>
              intro w' hSw
              obtain ⟨-, s0, -⟩ := hSw
              go_simp <;> with_reducible rfl
            try simp only [Act.put, List.setIfInBounds_toArray, List.set_cons_zero, List.set_cons_succ]
            refine take_yes (i := 4) (v := ?v4g) rfl (by kernel_rfl) (by kernel_rfl) (by kernel_rfl) (fun _ _ _ h => h) (by rfl) ?hy4g hHeld ?rest4g
            case hy4g =>
              intro w' hSw
              obtain ⟨-, s0, -⟩ := hSw
              go_simp <;> with_reducible rfl
            try simp only [Act.put, List.setIfInBounds_toArray, List.set_cons_zero, List.set_cons_succ]
            refine take_yes (i := 5) (v := ?v5g) rfl (by kernel_rfl) (by kernel_rfl) (by kernel_rfl) (fun _ _ _ h => h) (by rfl) ?hy5g hHeld ?rest5g
            case hy5g =>
              intro w' hSw
              obtain ⟨-, s0, -⟩ := hSw
              go_simp <;> with_reducible rfl
            try simp only [Act.put, List.setIfInBounds_toArray, List.set_cons_zero, List.set_cons_succ]
            refine take_yes (i := 6) (v := ?v6g) rfl (by kernel_rfl) (by kernel_rfl) (by kernel_rfl) (fun _ _ _ h => h) (by rfl) ?hy6g hHeld ?rest6g
            case hy6g =>
              intro w' hSw
              obtain ⟨-, s0, -⟩ := hSw
              go_simp <;> with_reducible rfl
            try simp only [Act.put, List.setIfInBounds_toArray, List.set_cons_zero, List.set_cons_succ]
            refine take_yes (i := 7) (v := ?v7g) rfl (by kernel_rfl) (by kernel_rfl) (by kernel_rfl) (fun _ _ _ h => h) (by rfl) ?hy7g hHeld ?rest7g
            case hy7g =>
              intro w' hSw
              obtain ⟨-, s0, -⟩ := hSw
              go_simp <;> with_reducible rfl
            try simp only [Act.put, List.setIfInBounds_toArray, List.set_cons_zero, List.set_cons_succ]
            refine take_yes (i := 8) (v := ?v8g) rfl (by kernel_rfl) (by kernel_rfl) (by kernel_rfl) (fun _ _ _ h => h) (by rfl) ?hy8g hHeld ?rest8g
            case hy8g =>
              intro w' hSw
              obtain ⟨-, s0, -⟩ := hSw
              go_simp <;> with_reducible rfl
            try simp only [Act.put, List.setIfInBounds_toArray, List.set_cons_zero, List.set_cons_succ]
            refine take_yes (i := 9) (v := _) rfl (by kernel_rfl) (by kernel_rfl) (by kernel_rfl) (fun _ _ _ h => h) (by rfl) (fun w' hSw => exec_load_mid_th (.tmp 117) rfl rfl hSw.2.2) hHeld ?rest9g
            try simp only [Act.put, List.setIfInBounds_toArray, List.set_cons_zero, List.set_cons_succ]
            refine take_yes (i := 10) (v := _) rfl (by kernel_rfl) (by kernel_rfl) (by kernel_rfl) (fun _ _ _ h => h) (by rfl) (fun w' hSw => exec_build_1 (m := 1) (i := b.id) (t := b) (.const (.int .i64 1)) (.tmp 114) (.tmp 118) rfl rfl rfl rfl) hHeld ?rest10g
            try simp only [Act.put, List.setIfInBounds_toArray, List.set_cons_zero, List.set_cons_succ]
            refine wpAnyH_ready (rs := [11]) (by kernel_rfl) (by simp) (cons_at (i := 11) rfl (fun K11g hK11g => ?_) AllReadyH.nil)
            go_simp
            refine hK11g.out _ _ (SB _ (hB3.alloc hs3 _).drew) (fun hHeld => ?_)
            clear hK11g K11g
            try simp only [Act.put, List.setIfInBounds_toArray, List.set_cons_zero, List.set_cons_succ]
            refine wpAnyH_ready (rs := [12]) (by kernel_rfl) (by simp) (cons_at (i := 12) rfl (fun K12g hK12g => ?_) AllReadyH.nil)
            refine step_append_lies _ rfl (.tmp 109) (.tmp 120) 28 rfl W2.heap.size 44 i0 zE.v 25 264 Try.underlying28 hi hz0 hz1 hz2 rfl (by decide) _ _ _ rfl ((ho3.alloc _).drew) ⟨V13.heap.size, 0, none⟩ 1 1 (enE b).cs rfl rfl (World.news_of_block (heap_alloc_new _ _)) (evs_cell (enE b)) (by decide) (by unfold maxLen; omega) (by omega) (by simp; omega) (V13.heap.size + 1) (by simp) ?_
            intro g5 cap5 W5 hown5 hgrow5 hat5 hg5
            have hB5 : Below W2.heap.size W2 W5 := ((hB3.alloc hs3 _).drew).grown hgrow5 (by simp; omega) (fun k hk => (ho3.lt k hk).1)
            refine hK12g.out _ _ (SB _ hB5) (fun hHeld => ?_)
            clear hK12g K12g
            try simp only [Act.put, List.setIfInBounds_toArray, List.set_cons_zero, List.set_cons_succ]
            refine take_yes (i := 13) (v := ?v13g) rfl (by kernel_rfl) (by kernel_rfl) (by kernel_rfl) (fun _ _ _ h => h) (by rfl) ?hy13g hHeld ?rest13g
            case hy13g =>
              intro w' hSw
              obtain ⟨-, s0, -⟩ := hSw
              go_simp <;> with_reducible rfl
            try simp only [Act.put, List.setIfInBounds_toArray, List.set_cons_zero, List.set_cons_succ]
            refine wpAnyH_done (by kernel_rfl) ?_ _
            clear hHeld SB
            go_wp2_with fail
            go_roundw
            case rel => exact ⟨i, k + 1, O ++ [enE b], rfl, by go_num, by omega, by omega, eM, by simp; omega, by rw [flatE_append, flatE_one, List.length_append]; exact hown5, hB5⟩
            case measure => simp [intOf]; omega
          · have e5 : decide (b.id < a.id) = false := by simpa using h2
            have eid : a.id = b.id := by omega
            have eM0 := hid (show O ++ (upE a b ++ doO (A.drop (i + 1)) (B.drop (k + 1))) = M by rw [← hM.out, dA, dB, doO_u _ _ eid])
            clear hM h1 h2 eid
            obtain ⟨ba, oa, hpa, cA⟩ := RA.out.at (k := i) (t := a) ga
            subst hpa
            have cA0 := (cellsT_later cA hb).1
            obtain ⟨bb, ob, hpb, cB⟩ := RB.out.at (k := k) (t := b) gb
            subst hpb
            have cB0 := (cellsT_later cB hb).1
            go_upto_region 10 with fail
            go_quiet (fail)
            obtain ⟨V10, hV10⟩ : ∃ V, wr.drewN nq = V := ⟨_, rfl⟩
            have bV10 : Below wr.heap.size wr V10 := by rw [← hV10]; exact below_drewN (Below.refl _ _) _
            try rw [hV10]
            clear hV10
            have ho2 := owns_on ho bV10
            have hB2 := below_on hb bV10
            clear cA0 cB0 ho hb hs bV10
            have cA0 := (cellsT_later cA hB2).1
            have cB0 := (cellsT_later cB hB2).1
            go_upto_region 13 with fail
            go_quiet (fail)
            obtain ⟨V13, hV13⟩ : ∃ V, V10.drewN nq = V := ⟨_, rfl⟩
            have bV13 : Below V10.heap.size V10 V13 := by rw [← hV13]; exact below_drewN (Below.refl _ _) _
            try rw [hV13]
            clear hV13
            have ho3 := owns_on ho2 bV13
            have hB3 := below_on hB2 bV13
            have hs3 := hB3.size
            clear cA0 cB0 ho2 hB2 bV13
            have SB : ∀ wx : World, Below W2.heap.size W2 wx → (Below W2.heap.size W2 wx ∧ wx.rangeAt ba (oa + i * 11) a.cs ∧ wx.rangeAt bb (ob + k * 11) b.cs) := fun wx hx => ⟨hx, range_th (cellsT_later cA hx), range_th (cellsT_later cB hx)⟩
            clear cA cB
            obtain ⟨d, hd⟩ : ∃ d, Hid (dK a b 4 = d) := ⟨_, rfl⟩
            obtain ⟨q, hq⟩ : ∃ q, Hid (decide (¬ d.m = 0) = q) := ⟨_, rfl⟩
            have CD := fun w => refdiffE_at hd hq w
            have hU := hid (upE_dK hd.out hq.out)
            clear hd hq
            go_upto_region 5 with fail
            go_cut [14, 15] from 22 to 123 (fun s14 s15 wx => ∃ gd, s14 = .pointer (some ⟨gd, 0, none⟩) ∧ s15 = .bool q ∧ wx.heap[gd]? = some d.o ∧ V13.heap.size ≤ gd ∧ Below V13.heap.size V13 wx)
            case first =>
              refine wp_region_held_drew (S := fun w' => Below W2.heap.size W2 w' ∧ w'.rangeAt ba (oa + i * 11) a.cs ∧ w'.rangeAt bb (ob + k * 11) b.cs) (by kernel_rfl) (SB _ hB3.drew) (fun hHeld => ?_)
              refine take_yes (i := 0) (v := ?v0c) rfl (by kernel_rfl) (by kernel_rfl) (by kernel_rfl) (fun _ _ _ h => h) (by rfl) ?hy0c hHeld ?rest0c
              case hy0c =>
                intro w' hSw
                obtain ⟨-, -, -⟩ := hSw
                go_simp <;> with_reducible rfl
              try simp only [Act.put, List.setIfInBounds_toArray, List.set_cons_zero, List.set_cons_succ]
              refine take_yes (i := 1) (v := ?v1c) rfl (by kernel_rfl) (by kernel_rfl) (by kernel_rfl) (fun _ _ _ h => h) (by rfl) ?hy1c hHeld ?rest1c
              case hy1c =>
                intro w' hSw
                obtain ⟨-, -, -⟩ := hSw
                go_simp <;> with_reducible rfl
              try simp only [Act.put, List.setIfInBounds_toArray, List.set_cons_zero, List.set_cons_succ]
              refine take_yes (i := 2) (v := ?v2c) rfl (by kernel_rfl) (by kernel_rfl) (by kernel_rfl) (fun _ _ _ h => h) (by rfl) ?hy2c hHeld ?rest2c
              case hy2c =>
                intro w' hSw
                obtain ⟨-, -, -⟩ := hSw
                go_simp <;> with_reducible rfl
              try simp only [Act.put, List.setIfInBounds_toArray, List.set_cons_zero, List.set_cons_succ]
              refine take_yes (i := 3) (v := _) rfl (by kernel_rfl) (by kernel_rfl) (by kernel_rfl) (fun _ _ _ h => h) (by rfl) (fun w' hSw => exec_load_mid_th (.tmp 35) rfl rfl hSw.2.1) hHeld ?rest3c
              try simp only [Act.put, List.setIfInBounds_toArray, List.set_cons_zero, List.set_cons_succ]
              refine take_yes (i := 4) (v := ?v4c) rfl (by kernel_rfl) (by kernel_rfl) (by kernel_rfl) (fun _ _ _ h => h) (by rfl) ?hy4c hHeld ?rest4c
              case hy4c =>
                intro w' hSw
                obtain ⟨-, -, -⟩ := hSw
                go_simp <;> with_reducible rfl
              try simp only [Act.put, List.setIfInBounds_toArray, List.set_cons_zero, List.set_cons_succ]
              refine take_yes (i := 5) (v := ?v5c) rfl (by kernel_rfl) (by kernel_rfl) (by kernel_rfl) (fun _ _ _ h => h) (by rfl) ?hy5c hHeld ?rest5c
              case hy5c =>
                intro w' hSw
                obtain ⟨-, -, -⟩ := hSw
                go_simp <;> with_reducible rfl
              try simp only [Act.put, List.setIfInBounds_toArray, List.set_cons_zero, List.set_cons_succ]
              refine take_yes (i := 6) (v := ?v6c) rfl (by kernel_rfl) (by kernel_rfl) (by kernel_rfl) (fun _ _ _ h => h) (by rfl) ?hy6c hHeld ?rest6c
              case hy6c =>
                intro w' hSw
                obtain ⟨-, -, -⟩ := hSw
                go_simp <;> with_reducible rfl
              try simp only [Act.put, List.setIfInBounds_toArray, List.set_cons_zero, List.set_cons_succ]
              refine take_yes (i := 7) (v := _) rfl (by kernel_rfl) (by kernel_rfl) (by kernel_rfl) (fun _ _ _ h => h) (by rfl) (fun w' hSw => exec_load_mid_th (.tmp 39) rfl rfl hSw.2.2) hHeld ?rest7c
              try simp only [Act.put, List.setIfInBounds_toArray, List.set_cons_zero, List.set_cons_succ]
              refine wpAnyH_ready (rs := [8, 12]) (by kernel_rfl) (by simp) (cons_at (i := 8) rfl (fun K8c hK8c => ?_) (cons_at (i := 12) rfl (fun K12d hK12d => ?_) AllReadyH.nil))
              · go_simp
                go_at_call 24
                with_reducible refine (CD _).mono ?_
                rintro x W4 ⟨rfl, hb4⟩
                have hb4' : Below V13.heap.size V13 W4 := below_on (Below.refl _ _).drew hb4
                have hB4 := below_on hB3 hb4'
                go_wp2_with fail
                refine hK8c.out _ _ (SB _ hB4) (fun hHeld => ?_)
                clear hK8c K8c
                try simp only [Act.put, List.setIfInBounds_toArray, List.set_cons_zero, List.set_cons_succ]
                refine take_yes (i := 9) (v := ?v9e) rfl (by kernel_rfl) (by kernel_rfl) (by kernel_rfl) (fun _ _ _ h => h) (by rfl) ?hy9e hHeld ?rest9e
                case hy9e =>
                  intro w' hSw
                  obtain ⟨-, -, -⟩ := hSw
                  go_simp <;> with_reducible rfl
                try simp only [Act.put, List.setIfInBounds_toArray, List.set_cons_zero, List.set_cons_succ]
                refine take_yes (i := 10) (v := ?v10e) rfl (by kernel_rfl) (by kernel_rfl) (by kernel_rfl) (fun _ _ _ h => h) (by rfl) ?hy10e hHeld ?rest10e
                case hy10e =>
                  intro w' hSw
                  obtain ⟨-, -, -⟩ := hSw
                  go_simp <;> with_reducible rfl
                try simp only [Act.put, List.setIfInBounds_toArray, List.set_cons_zero, List.set_cons_succ]
                refine take_yes (i := 11) (v := ?v11e) rfl (by kernel_rfl) (by kernel_rfl) (by kernel_rfl) (fun _ _ _ h => h) (by rfl) ?hy11e hHeld ?rest11e
                case hy11e =>
                  intro w' hSw
                  obtain ⟨-, -, -⟩ := hSw
                  go_simp <;> with_reducible rfl
                try simp only [Act.put, List.setIfInBounds_toArray, List.set_cons_zero, List.set_cons_succ]
                refine wpAnyH_ready (rs := [12]) (by kernel_rfl) (by simp) (cons_at (i := 12) rfl (fun K12e hK12e => ?_) AllReadyH.nil)
                go_simp
                refine hK12e.out _ _ (SB _ (hB4.alloc hB4.size _)) (fun hHeld => ?_)
                clear hK12e K12e
                try simp only [Act.put, List.setIfInBounds_toArray, List.set_cons_zero, List.set_cons_succ]
                refine wpAnyH_ready (rs := [13]) (by kernel_rfl) (by simp) (cons_at (i := 13) rfl (fun K13e hK13e => ?_) AllReadyH.nil)
                refine step_store_dl rfl (.tmp 14) (.tmp 42) rfl rfl rfl (new_at W4 zD.o _ rfl) ?_
                intro W6 KD6 b6 s6
                refine hK13e.out _ _ (SB _ (b6.below (hB4.alloc hB4.size _) hB4.size)) (fun hHeld => ?_)
                clear hK13e K13e
                try simp only [Act.put, List.setIfInBounds_toArray, List.set_cons_zero, List.set_cons_succ]
                refine take_yes (i := 14) (v := ?v14e) rfl (by kernel_rfl) (by kernel_rfl) (by kernel_rfl) (fun _ _ _ h => h) (by rfl) ?hy14e hHeld ?rest14e
                case hy14e =>
                  intro w' hSw
                  obtain ⟨-, -, -⟩ := hSw
                  go_simp <;> with_reducible rfl
                try simp only [Act.put, List.setIfInBounds_toArray, List.set_cons_zero, List.set_cons_succ]
                refine wpAnyH_done (by kernel_rfl) ?_ _
                go_wp2_with fail
                go_meet
                case rel => exact ⟨W4.heap.size, rfl, rfl, KD6, hb4'.size, (b6.below (hb4'.alloc hb4'.size _) hb4'.size)⟩
              · go_simp
                have hba : Below V13.heap.size V13 ((V13.alloc zD.o).drew) := (below1 _ _).drew
                refine hK12d.out _ _ (SB _ (below_on hB3 hba)) (fun hHeld => ?_)
                clear hK12d K12d
                try simp only [Act.put, List.setIfInBounds_toArray, List.set_cons_zero, List.set_cons_succ]
                refine wpAnyH_ready (rs := [8]) (by kernel_rfl) (by simp) (cons_at (i := 8) rfl (fun K8f hK8f => ?_) AllReadyH.nil)
                go_simp
                go_at_call 24
                with_reducible refine (CD _).mono ?_
                rintro x W4 ⟨rfl, hb4⟩
                have hb4' : Below V13.heap.size V13 W4 := below_on hba hb4
                have KD4 : W4.heap[V13.heap.size]? = some zD.o := var_on hb4 (new_at V13 zD.o _ rfl) (by simp)
                have hB4 := below_on hB3 hb4'
                go_wp2_with fail
                refine hK8f.out _ _ (SB _ hB4) (fun hHeld => ?_)
                clear hK8f K8f
                try simp only [Act.put, List.setIfInBounds_toArray, List.set_cons_zero, List.set_cons_succ]
                refine take_yes (i := 9) (v := ?v9f) rfl (by kernel_rfl) (by kernel_rfl) (by kernel_rfl) (fun _ _ _ h => h) (by rfl) ?hy9f hHeld ?rest9f
                case hy9f =>
                  intro w' hSw
                  obtain ⟨-, -, -⟩ := hSw
                  go_simp <;> with_reducible rfl
                try simp only [Act.put, List.setIfInBounds_toArray, List.set_cons_zero, List.set_cons_succ]
                refine take_yes (i := 10) (v := ?v10f) rfl (by kernel_rfl) (by kernel_rfl) (by kernel_rfl) (fun _ _ _ h => h) (by rfl) ?hy10f hHeld ?rest10f
                case hy10f =>
                  intro w' hSw
                  obtain ⟨-, -, -⟩ := hSw
                  go_simp <;> with_reducible rfl
                try simp only [Act.put, List.setIfInBounds_toArray, List.set_cons_zero, List.set_cons_succ]
                refine take_yes (i := 11) (v := ?v11f) rfl (by kernel_rfl) (by kernel_rfl) (by kernel_rfl) (fun _ _ _ h => h) (by rfl) ?hy11f hHeld ?rest11f
                case hy11f =>
                  intro w' hSw
                  obtain ⟨-, -, -⟩ := hSw
                  go_simp <;> with_reducible rfl
                try simp only [Act.put, List.setIfInBounds_toArray, List.set_cons_zero, List.set_cons_succ]
                refine wpAnyH_ready (rs := [13]) (by kernel_rfl) (by simp) (cons_at (i := 13) rfl (fun K13f hK13f => ?_) AllReadyH.nil)
                refine step_store_dl rfl (.tmp 14) (.tmp 42) rfl rfl rfl KD4 ?_
                intro W6 KD6 b6 s6
                refine hK13f.out _ _ (SB _ (b6.below hB4 hB3.size)) (fun hHeld => ?_)
                clear hK13f K13f
                try simp only [Act.put, List.setIfInBounds_toArray, List.set_cons_zero, List.set_cons_succ]
                refine take_yes (i := 14) (v := ?v14f) rfl (by kernel_rfl) (by kernel_rfl) (by kernel_rfl) (fun _ _ _ h => h) (by rfl) ?hy14f hHeld ?rest14f
                case hy14f =>
                  intro w' hSw
                  obtain ⟨-, -, -⟩ := hSw
                  go_simp <;> with_reducible rfl
                try simp only [Act.put, List.setIfInBounds_toArray, List.set_cons_zero, List.set_cons_succ]
                refine wpAnyH_done (by kernel_rfl) ?_ _
                go_wp2_with fail
                go_meet
                case rel => exact ⟨V13.heap.size, rfl, rfl, KD6, (Nat.le_refl _), (b6.below hb4' (Nat.le_refl _))⟩
            case rest =>
              obtain ⟨gd, rfl, rfl, KD, hgd, hbc⟩ := hcut
              have ho4 := owns_on ho3 hbc
              have hB4 := below_on hB3 hbc
              have hs4 := hB4.size
              have hU2 := hU.out
              clear CD SB ho3 hB3 hs3 hbc hU
              cases q
              · have eM := hid (show O ++ doO (A.drop (i + 1)) (B.drop (k + 1)) = M by rw [← eM0.out, hU2]; simp)
                clear hU2 eM0 KD
                go_wp2_with fail
                go_roundw
                case rel => exact ⟨i + 1, k + 1, O, by go_num, by go_num, by omega, by omega, eM, by omega, ho4, hB4⟩
                case measure => simp [intOf]; omega
              · have eM := hid (show (O ++ [(⟨2, d.id, zT, d⟩ : Ev)]) ++ doO (A.drop (i + 1)) (B.drop (k + 1)) = M by rw [← eM0.out, hU2]; simp)
                have cd0 : wc.cell? ⟨gd, 0, none⟩ = some (.int .i64 d.id) := (cells_at KD).1 0
                have HKD := hid KD
                clear hU2 eM0 KD
                go_wp2_with (first
                  | (with_reducible refine wpList_load_dl rfl (.tmp 14) rfl rfl HKD.out ?_)
                  | ((with_reducible refine wpList_build_2 ?_ (.const (.int .i64 2)) (.tmp 47) (.tmp 48) rfl rfl rfl rfl ?_); · rfl)
                  | (at_builtin; refine wpList_append_lies _ rfl _ _ 28 rfl W2.heap.size 44 i0 zE.v 25 264 Try.underlying28 hi hz0 hz1 hz2 rfl (by decide) _ _ _ rfl (ho4.alloc _) ⟨wc.heap.size, 0, none⟩ 1 1 (⟨2, d.id, zT, d⟩ : Ev).cs rfl rfl (World.news_of_block (heap_alloc_new _ _)) (evs_cell (⟨2, d.id, zT, d⟩ : Ev)) (by decide) (by unfold maxLen; omega) (by omega) (by simp; omega) (wc.heap.size + 1) (by simp) ?_; intro g5 cap5 W5 hown5 hgrow5 hat5 hg5))
                go_roundw
                case rel => exact ⟨i + 1, k + 1, O ++ [(⟨2, d.id, zT, d⟩ : Ev)], by go_num, by go_num, by omega, by omega, eM, by simp; omega, by rw [flatE_append, flatE_one, List.length_append]; exact hown5, (hB4.alloc hs4 _).grown hgrow5 (by simp; omega) (fun k hk => (ho4.lt k hk).1)⟩
                case measure => simp [intOf]; omega
end
end Go.Proofs.Ytjdlcocncacmlaa
