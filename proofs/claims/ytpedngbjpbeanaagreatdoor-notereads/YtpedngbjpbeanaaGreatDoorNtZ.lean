/- Contract of Read of the package note. -/
import Derived.Test.YtpedngbjpbeanaaGreatDoorNtO
import Derived.Test.YtpedngbjpbeanaaGreatDoorNtY
namespace Go.Proofs.YtpedngbjpbeanaaGreatDoor
open Go.RowKit
set_option linter.unusedVariables false
set_option maxRecDepth 100000
theorem Tryz.sizeNt : (Tryz.prog.info? 26).map (·.size) = some 6 := by kernel_rfl
theorem wpList_load_nt {ops : Array Oper} {rest : List Oper} {o : Oper} {a : Act} {W : World} {Q : Exit → Act → World → Prop} (hgd : o.guard = none) (x : Operand) (ho : o.op = .load 26 x)
    {g : Nat} {c : Nt} {q : Ns} (hx : a.eval x = .pointer (some ⟨g, 0, none⟩)) (h : W.heap[g]? = some (c.o q)) (k : wpList Tryz.prog ops Q rest (a.put o.dst (c.v q)) W) : wpList Tryz.prog ops Q (o :: rest) a W :=
  wpList_load_row hgd _ x ho g hx _ _ _ _ h Tryz.underlying26 rfl Tryz.sizeNt k
theorem wpList_store_nt {ops : Array Oper} {rest : List Oper} {o : Oper} {a : Act} {W : World} {Q : Exit → Act → World → Prop} (hgd : o.guard = none) (x y : Operand) (ho : o.op = .store 26 x y)
    {g : Nat} {c d : Nt} {q r : Ns} (hx : a.eval x = .pointer (some ⟨g, 0, none⟩)) (hy : a.eval y = c.v q) (h : W.heap[g]? = some (d.o r)) (k : ∀ W', W'.heap[g]? = some (c.o q) → But g W W' → W'.heap.size = W.heap.size → wpList Tryz.prog ops Q rest (a.put o.dst undef) W') : wpList Tryz.prog ops Q (o :: rest) a W :=
  wpList_store_row hgd _ x y ho g _ hx hy _ _ h Tryz.sizeNt rfl (by simp [Value.oneCell']) (k _ (setRow_heap W g _ _ _ _ h) ⟨rfl, rfl, rfl, by simp, fun i hi hg => setRow_other W g i _ hg⟩ (by simp))
theorem results_nt {tmps : Array Value} {W : World} {g : Nat} {c : Nt} {q : Ns} {z e : Int} (h2 : tmps.getD 2 undef = .pointer (some ⟨g, 0, none⟩)) (h3 : tmps.getD 3 undef = .int .i64 z) (h4 : tmps.getD 4 undef = .int .i64 e) (h : W.heap[g]? = some (c.o q)) :
    (results Tryz.f15 tmps).run Tryz.prog W = .ok (.tuple #[c.v q, .int .i64 z, .int .i64 e]) W := by
  have hl : (loadVar 26 ⟨g, 0, none⟩).run Tryz.prog W = .ok (c.v q) W := run_loadVar_row W g _ _ _ _ _ h Tryz.underlying26 rfl Tryz.sizeNt
  have h2' : tmps[2]?.getD undef = .pointer (some ⟨g, 0, none⟩) := by simpa using h2
  have h3' : tmps[3]?.getD undef = .int .i64 z := by simpa using h3
  have h4' : tmps[4]?.getD undef = .int .i64 e := by simpa using h4
  simp [results, Tryz.results15, h2', h3', h4', asAddr, hl]
/-- how Read ends: what it read lies in memory of its own -/
def NtRead (w : World) (n : Nt) (k e : Nat) : Ending → World → Prop := fun r w' => ∃ q, r = .returned (.tuple #[n.v q, .int .i64 k, .int .i64 e]) ∧ OwnN w' w.heap.size q n ∧ FitN n ∧ LowN n ∧ Below w.heap.size w w'
theorem fit_zero : FitN zN := ⟨fun t ht => by simp [zN] at ht, fun t ht => by simp [zN] at ht, fun t ht => by simp [zN] at ht⟩
theorem low_zero : LowN zN := by refine ⟨?_, ?_, ?_, ?_⟩ <;> simp [zN]
theorem read_zero {w w' : World} (e : Nat) (hb : Below w.heap.size w w') : NtRead w zN 0 e (.returned (.tuple #[zN.v zS, .int .i64 ((0 : Nat) : Int), .int .i64 e])) w' := ⟨zS, rfl, own_zero _ _, fit_zero, low_zero, hb⟩
theorem unwrap_le {l u : List UInt8} {k e : Nat} (h : unwrap l = (u, k, e)) : u.length ≤ l.length ∧ k ≤ l.length := by
  rcases ht : texts l 40000 with ⟨b, i, x⟩
  have h1 := texts_okS ht
  unfold unwrap at h
  rw [ht] at h
  simp only at h
  split at h
  · simp only [Prod.mk.injEq] at h; obtain ⟨rfl, rfl, -⟩ := h; simp
  · split at h
    · simp only [Prod.mk.injEq] at h; obtain ⟨rfl, rfl, -⟩ := h; simp
    · split at h
      · simp only [Prod.mk.injEq] at h; obtain ⟨rfl, rfl, -⟩ := h; simp
      · simp only [Prod.mk.injEq] at h; obtain ⟨rfl, rfl, -⟩ := h; exact ⟨h1.2.1, by omega⟩
theorem readNt_not {s u : List UInt8} {k e : Nat} {r : Nt × Nat × Nat} (h : readNt s = r) (hu : unwrap s = (u, k, e)) (he : ¬ e = 0) : r = (zN, 0, e) := by
  rw [← h]; unfold readNt; rw [hu]; simp only; rw [if_pos he]
theorem readNt_no {s u : List UInt8} {k Z E : Nat} {M : Nt} {r : Nt × Nat × Nat} (h : readNt s = r) (hu : unwrap s = (u, k, 0)) (hM : readN u = (M, Z, E)) (hn : ¬ E = 0 ∨ ¬ (bytesN M).1 = s.take k) : r = (zN, 0, 11) := by
  rw [← h]; unfold readNt; rw [hu]; simp only; rw [if_neg (by simp), hM]; simp only; rw [if_pos hn]
theorem readNt_yes {s u : List UInt8} {k Z : Nat} {M : Nt} {r : Nt × Nat × Nat} (h : readNt s = r) (hu : unwrap s = (u, k, 0)) (hM : readN u = (M, Z, 0)) (hn : (bytesN M).1 = s.take k) : r = (M, k, 0) := by
  rw [← h]; unfold readNt; rw [hu]; simp only; rw [if_neg (by simp), hM]; simp only; rw [if_neg (by rintro (x | x); exact x rfl; exact x hn)]
theorem same_bytes {s : ByteArray} {B : List UInt8} {k : Nat} : (ByteArray.mk B.toArray = s.extract 0 k) ↔ B = s.data.toList.take k := by
  have e : (s.extract 0 k).data.toList = s.data.toList.take k := by simp [ByteArray.data_extract]
  constructor
  · intro h
    rw [← e, ← h]
  · intro h
    apply ByteArray.ext
    apply Array.ext'
    rw [e, ← h]
set_option maxHeartbeats 2000000 in
theorem note_read {w : World} (hM : Masks w) {s : ByteArray} {n : Nt} {k e : Nat} (h : Hid (readNt s.data.toList = (n, k, e))) (hs : s.size ≤ 1000000) :
    Calls Tryz.prog 15 #[.string s] w (NtRead w n k e) := by
  obtain ⟨Q, hQ⟩ : ∃ Q, Hid (NtRead w n k e = Q) := ⟨_, rfl⟩
  rw [hQ.out]
  obtain ⟨W, hW⟩ : ∃ W, W = w.alloc (zN.o zS) := ⟨_, rfl⟩
  have hB : Below w.heap.size w W := by rw [hW]; exact below1 _ _
  have hA := hid (show W.heap[w.heap.size]? = some (zN.o zS) by rw [hW]; exact new_at _ _ _ rfl)
  have lA := at_lt hA.out
  rcases hu : unwrap s.data.toList with ⟨u, k1, e1⟩
  have hle := unwrap_le hu
  have hle1 : u.length ≤ s.size := hle.1
  have hle2 : k1 ≤ s.size := hle.2
  have HU := hid hu
  have HO : Hid (unwrap s.data.toList = ((⟨u.toArray⟩ : ByteArray).data.toList, k1, e1)) := hu
  have C0 := fun w => open_at HO (by omega) w
  have HM := hid hM
  clear hu hle HO hM
  go_enter Tryz.func15, Tryz.ntmps15
  go_upto_region 1 with fail
  rw [show (Obj.cells #[.int .i64 0, .int .i64 0, .slice none 0 0, .slice none 0 0, .slice none 0 0, .slice none 0 0] 26 (0, 0)) = zN.o zS from rfl, ← hW]
  clear hW
  go_wp2_with fail
  refine (C0 _).mono ?_
  rintro y W1 ⟨rfl, hb1⟩
  have hA1 := hid (var_on hb1 hA.out lA)
  have hB1 := below_on hB hb1
  have lA1 := at_lt hA1.out
  clear hb1 hA hB lA C0
  by_cases he1 : e1 = 0
  · subst he1
    have hE : ((0 : Int) != 0) = false := rfl
    obtain ⟨W2, hW2⟩ : ∃ W2, W2 = W1.alloc (zN.o zS) := ⟨_, rfl⟩
    have hb2 : Below W1.heap.size W1 W2 := by rw [hW2]; exact below1 _ _
    have hG := hid (show W2.heap[W1.heap.size]? = some (zN.o zS) by rw [hW2]; exact new_at _ _ _ rfl)
    have lG := at_lt hG.out
    have hA2 := hid (var_on hb2 hA1.out lA1)
    have hB2 := below_on hB1 hb2
    obtain ⟨g, hg⟩ : ∃ g, Hid (W1.heap.size = g) := ⟨_, rfl⟩
    have lAg : w.heap.size < g := by rw [← hg.out]; exact lA1
    go_upto_region 5 with fail
    rw [show (Obj.cells #[.int .i64 0, .int .i64 0, .slice none 0 0, .slice none 0 0, .slice none 0 0, .slice none 0 0] 26 (0, 0)) = zN.o zS from rfl, ← hW2]
    clear hW2 hb2
    rw [hg.out] at hG lG ⊢
    clear hg hA1 hB1 lA1
    go_wp2_with fail
    refine (note_parts lG).mono ?_
    rintro y W3 ⟨b, cap, rfl, hr, hb3⟩
    have hA3 := hid (var_on hb3 hA2.out (by have := at_lt hA2.out; omega))
    have hG3 := hid (var_on hb3 hG.out lG)
    have hB3 := below_on hB2 hb3
    rcases hR : readN u with ⟨M, Z, E⟩
    have HR := hid hR
    have hI0 : InvN g W2.heap.size 0 zN W3 zS := ⟨hG3.out, own_zero _ _, lG, hb3.size, fit_zero, low_zero, fun _ => ⟨rfl, rfl, rfl⟩, fun _ => ⟨rfl, rfl, rfl⟩, fun _ => ⟨rfl, rfl, rfl⟩, fun _ => ⟨rfl, rfl, rfl⟩⟩
    have hsu : (⟨u.toArray⟩ : ByteArray).size ≤ 1000000 := by show u.toArray.size ≤ _; simp; omega
    have C := note_taken (s := ⟨u.toArray⟩) (step := stepN) (Inv := fun j n W => ∃ q, InvN g W2.heap.size j n W q) (N := zN) (M := M) (Z := Z) (E := E) hr lG (hid rfl) (by omega) ⟨zS, hI0⟩ (fun j m W ⟨q, h⟩ => ⟨q, h.lies, ⟨h.own.mo, h.own.ha, h.own.gi, h.own.wa⟩, h.lt, h.le, h.fit, h.low, h.e2, h.e3, h.e4, h.e5⟩) stepN_le (fun i p hp => nt_takes hsu _ _ i p hp) HR hsu
    have l2 : w.heap.size + 1 ≤ W2.heap.size := by omega
    clear hr hb3 hG hA2 hB2 lG hR hI0 hG3
    go_wp2_with fail
    refine C.mono ?_
    rintro y W4 ⟨rfl, ⟨j, q, hI⟩, hbut⟩
    have hA4 := hid (hbut.at hA3.out (by omega))
    have hB4 := hid (hbut.below hB3 (by omega))
    have hG4 := hid hI.lies
    rcases hBY : bytesN M with ⟨B, e2⟩
    have HBY := hid hBY
    have C2 := note_bytes (HM.out.below hB4.out) hI.own.row hI.fit hI.low.len HBY
    have HI := hid hI
    clear C hA3 hB3 hI hBY
    go_wp2_with (with_reducible refine wpList_load_nt rfl (.tmp 8) rfl rfl hG4.out ?_)
    refine C2.mono ?_
    rintro y W5 ⟨rfl, hb5⟩
    have hA5 := hid (var_on hb5 hA4.out (at_lt hA4.out))
    have hG5 := hid (var_on hb5 hG4.out (at_lt hG4.out))
    have hB5 := hid (below_on hB4.out hb5)
    have hown := hid ((HI.out.own.on hb5).mono l2)
    clear C2 hb5 hA4 hG4 hB4 hbut
    have jk1 : (0 : Int) ≤ (k1 : Int) := by omega
    have jk2 : (k1 : Int) ≤ (s.size : Int) := by omega
    by_cases hE2 : E = 0
    · subst hE2
      by_cases hq : ByteArray.mk B.toArray = s.extract 0 k1
      · have e1 := readNt_yes h.out HU.out HR.out (by rw [HBY.out]; exact same_bytes.1 hq)
        simp only [Prod.mk.injEq] at e1
        obtain ⟨rfl, rfl, rfl⟩ := e1
        have hP := hid (fun (W' : World) (hb : But w.heap.size W5 W') => (show NtRead w n k 0 (.returned (.tuple #[n.v q, .int .i64 k, .int .i64 ((0 : Nat) : Int)])) W' from ⟨q, rfl, (hown.out.but hb (Nat.lt_succ_self _)).mono (Nat.le_succ _), HI.out.fit, HI.out.low, hb.below hB5.out (Nat.le_refl _)⟩))
        go_wp2_with (first
          | with_reducible refine wpList_load_nt rfl (.tmp 8) rfl rfl hG5.out ?_
          | (with_reducible refine wpList_store_nt rfl (.tmp 2) (.tmp 42) rfl rfl rfl hA5.out ?_
             intro W9 h9 hb9 hs9))
        rw [← hQ.out]
        exact bodyPost_ret (v := .tuple #[n.v q, .int .i64 k, .int .i64 0]) (results_nt rfl rfl rfl h9) rfl (hP.out _ hb9)
      · have e1 := readNt_no h.out HU.out HR.out (.inr (by rw [HBY.out]; exact fun x => hq (same_bytes.2 x)))
        simp only [Prod.mk.injEq] at e1
        obtain ⟨rfl, rfl, rfl⟩ := e1
        have q1 : (B == (s.extract 0 k1).toList) = false := by
          rw [beq_eq_false_iff_ne]
          intro x
          apply hq
          apply ByteArray.ext
          apply Array.ext'
          rw [Lib.toList_data] at x
          exact x
        go_wp2_with (with_reducible refine wpList_store_nt (c := zN) (q := zS) rfl (.tmp 2) (.tmp 41) rfl rfl rfl hA5.out ?_; intro W9 h9 hb9 hs9)
        rw [← hQ.out]
        exact bodyPost_ret (v := .tuple #[zN.v zS, .int .i64 0, .int .i64 11]) (results_nt rfl rfl rfl h9) rfl (read_zero 11 (hb9.below hB5.out (Nat.le_refl _)))
    · have e1 := readNt_no h.out HU.out HR.out (.inl hE2)
      simp only [Prod.mk.injEq] at e1
      obtain ⟨rfl, rfl, rfl⟩ := e1
      have q1 : ((E : Int) == 0) = false := by simpa using hE2
      go_wp2_with (with_reducible refine wpList_store_nt (c := zN) (q := zS) rfl (.tmp 2) (.tmp 41) rfl rfl rfl hA5.out ?_; intro W9 h9 hb9 hs9)
      rw [← hQ.out]
      exact bodyPost_ret (v := .tuple #[zN.v zS, .int .i64 0, .int .i64 11]) (results_nt rfl rfl rfl h9) rfl (read_zero 11 (hb9.below hB5.out (Nat.le_refl _)))
  · have e2 := readNt_not h.out HU.out he1
    simp only [Prod.mk.injEq] at e2
    obtain ⟨rfl, rfl, rfl⟩ := e2
    have hE : ((e : Int) != 0) = true := by simpa using he1
    go_wp2_with (with_reducible refine wpList_store_nt (c := zN) (q := zS) rfl (.tmp 2) (.tmp 19) rfl rfl rfl hA1.out ?_; intro W9 h9 hb9 hs9)
    rw [← hQ.out]
    exact bodyPost_ret (v := .tuple #[zN.v zS, .int .i64 0, .int .i64 e]) (results_nt rfl rfl rfl h9) rfl (read_zero e (hb9.below hB1 (Nat.le_refl _)))
end Go.Proofs.YtpedngbjpbeanaaGreatDoor
