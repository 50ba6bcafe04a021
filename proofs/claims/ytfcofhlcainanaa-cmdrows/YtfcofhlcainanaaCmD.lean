/- Contract of Read of the package cmd: how it goes on from part to part. -/
import Derived.Test.YtfcofhlcainanaaCmI
import Derived.Test.YtfcofhlcainanaaCmR
namespace Go.Proofs.Ytfcofhlcainanaa
open Go.RowKit
set_option linter.unusedVariables false
theorem part_read_le {d d' : Cm} {l : List UInt8} {p : Pa} {i e : Nat} (h : p.read d l = (d', i, e)) : i ≤ l.length ∧ (e = 0 ∨ e = 10 ∨ e = 11 ∨ e = 13) := by
  rcases p with ⟨k, lo, hi⟩ | k
  · have h' : numR d k lo hi l = (d', i, e) := h
    rcases hg : get l with ⟨n, j, x⟩
    obtain ⟨h1, h2, h3, h4, h5⟩ := get_ok hg
    unfold numR at h'
    rw [hg] at h'
    simp only at h'
    split at h'
    · simp only [Prod.mk.injEq] at h'; omega
    · split at h' <;> (simp only [Prod.mk.injEq] at h'; omega)
  · have h' : fldR d k l = (d', i, e) := h
    rcases ht : texts l 12 with ⟨u, j, x⟩
    obtain ⟨t1, t2, t3, t4, t5⟩ := texts_ok ht
    rcases hg : get (l.drop j) with ⟨n, j2, x2⟩
    obtain ⟨h1, h2, h3, h4, h5⟩ := get_ok hg
    rw [List.length_drop] at h2
    unfold fldR at h'
    rw [ht] at h'
    simp only at h'
    rw [hg] at h'
    simp only at h'
    split at h'
    · simp only [Prod.mk.injEq] at h'; omega
    · split at h'
      · simp only [Prod.mk.injEq] at h'; omega
      · split at h' <;> (simp only [Prod.mk.injEq] at h'; omega)
theorem readL_step {s : List UInt8} {L : List Pa} {k : Nat} {p : Pa} {d : Cm} {z : Nat} (hp : L[k]? = some p) : readL s (L.drop k) d z = if (p.read d (s.drop z)).2.2 ≠ 0 then ((p.read d (s.drop z)).1, z, (p.read d (s.drop z)).2.2) else readL s (L.drop (k + 1)) (p.read d (s.drop z)).1 (z + (p.read d (s.drop z)).2.1) := by
  have hlt : k < L.length := (List.getElem?_eq_some_iff.1 hp).1
  have e : L[k] = p := (List.getElem?_eq_some_iff.1 hp).2
  rw [List.drop_eq_getElem_cons hlt, e]; rfl
theorem readL_bad {s : List UInt8} {L : List Pa} {k : Nat} {p : Pa} {d d' : Cm} {z i e : Nat} {r : Cm × Nat × Nat} (hr : readL s (L.drop k) d z = r) (hp : L[k]? = some p) (h : p.read d (s.drop z) = (d', i, e)) (he : ¬ e = 0) : r = (d', z, e) := by
  rw [← hr, readL_step hp, h]; simp only; rw [if_pos he]
theorem readL_good {s : List UInt8} {L : List Pa} {k : Nat} {p : Pa} {d d' : Cm} {z i : Nat} {r : Cm × Nat × Nat} (hr : readL s (L.drop k) d z = r) (hp : L[k]? = some p) (h : p.read d (s.drop z) = (d', i, 0)) : readL s (L.drop (k + 1)) d' (z + i) = r := by
  rw [← hr, readL_step hp, h]; simp only; rw [if_neg (by simp)]
theorem readC_bad {s : List UInt8} {c1 : Cm} {z1 e1 : Nat} (h : readL s headP zC 0 = (c1, z1, e1)) (he : ¬ e1 = 0) : readC s = (zC, 0, e1) := by
  unfold readC; rw [h]; simp only; rw [if_pos he]
theorem readC_bad2 {s : List UInt8} {c1 c2 : Cm} {z1 z2 e2 : Nat} (h : readL s headP zC 0 = (c1, z1, 0)) (h2 : readL s (restP c1.kd) c1 z1 = (c2, z2, e2)) (he : ¬ e2 = 0) : readC s = (zC, 0, e2) := by
  unfold readC; rw [h]; simp only; rw [h2]; simp only; rw [if_neg (by simp), if_pos he]
theorem readC_good {s : List UInt8} {c1 c2 : Cm} {z1 z2 : Nat} (h : readL s headP zC 0 = (c1, z1, 0)) (h2 : readL s (restP c1.kd) c1 z1 = (c2, z2, 0)) : readC s = (c2, z2, 0) := by
  unfold readC; rw [h]; simp only; rw [h2]; simp only; rw [if_neg (by simp), if_neg (by simp)]
theorem one22 (c : Cm) : (#[.int .i64 c.kd, .int .i64 c.id, .int .i64 c.wh, .int .i64 c.tt, .int .i64 c.x, .int .i64 c.y, .int .i64 c.f0.n, .string c.f0.s, .int .i64 c.f1.n, .string c.f1.s, .int .i64 c.f2.n, .string c.f2.s, .int .i64 c.f3.n, .string c.f3.s, .int .i64 c.va.n, .string c.va.s, .int .i64 c.cl, .int .i64 c.se, .int .i64 c.r0, .int .i64 c.r1, .int .i64 c.r2, .int .i64 c.r3] : Array Value).all (·.oneCell') = true := by simp [Value.oneCell']
theorem wpList_store_cm {ops : Array Oper} {rest : List Oper} {o : Oper} {a : Act} {W : World} {Q : Exit → Act → World → Prop} (hgd : o.guard = none) (x y : Operand) (ho : o.op = .store 30 x y)
    {g : Nat} {c d : Cm} (hx : a.eval x = .pointer (some ⟨g, 0, none⟩)) (hy : a.eval y = c.v) (h : W.heap[g]? = some d.o) (k : ∀ W', W'.heap[g]? = some c.o → But g W W' → W'.heap.size = W.heap.size → wpList Try.prog ops Q rest (a.put o.dst undef) W') : wpList Try.prog ops Q (o :: rest) a W :=
  wpList_store_row hgd _ x y ho g _ hx hy _ _ h Try.size30 rfl (one22 c) (k _ (setRow_heap W g _ _ _ _ h) ⟨rfl, rfl, rfl, by simp, fun i hi hg => setRow_other W g i _ hg⟩ (by simp))
theorem load_var {W : World} {g : Nat} {c : Cm} (h : W.heap[g]? = some c.o) : (loadVar 30 ⟨g, 0, none⟩).run Try.prog W = .ok c.v W :=
  run_loadVar_row W g _ _ _ _ _ h Try.underlying30 rfl Try.size30
theorem results_read {tmps : Array Value} {W : World} {g : Nat} {c : Cm} {z e : Int} (h2 : tmps.getD 2 undef = .pointer (some ⟨g, 0, none⟩)) (h3 : tmps.getD 3 undef = .int .i64 z) (h4 : tmps.getD 4 undef = .int .i64 e) (h : W.heap[g]? = some c.o) :
    (results Try.f16 tmps).run Try.prog W = .ok (.tuple #[c.v, .int .i64 z, .int .i64 e]) W := by
  have hl := load_var h
  have h2' : tmps[2]?.getD undef = .pointer (some ⟨g, 0, none⟩) := by simpa using h2
  have h3' : tmps[3]?.getD undef = .int .i64 z := by simpa using h3
  have h4' : tmps[4]?.getD undef = .int .i64 e := by simpa using h4
  simp [results, Try.results16, h2', h3', h4', asAddr, hl]
theorem num_read_at {w : World} {g k : Nat} {c c' : Cm} (h : w.heap[g]? = some c.o) (hk : atI k) {lo hi : Int} {s : ByteArray} {z i e : Nat} (HR : Hid (numR c k lo hi (s.data.toList.drop z) = (c', i, e))) (hs : s.size ≤ 1000000) :
    Calls Try.prog 46 #[numV g k lo hi, .string (s.extract z s.size)] w fun x w' => x = .returned (.tuple #[.int .i64 i, .int .i64 e]) ∧ w'.heap[g]? = some c'.o ∧ But g w w' :=
  num_read h hk (r := (c', i, e)) (by rw [cut_data]; exact HR) (by rw [ByteArray.size_extract]; omega)
theorem fld_read_at {w : World} {g k : Nat} {c c' : Cm} (h : w.heap[g]? = some c.o) (hk : atF k) {s : ByteArray} {z i e : Nat} (HR : Hid (fldR c k (s.data.toList.drop z) = (c', i, e))) (hs : s.size ≤ 1000000) :
    Calls Try.prog 56 #[fldV g k, .string (s.extract z s.size)] w fun x w' => x = .returned (.tuple #[.int .i64 i, .int .i64 e]) ∧ w'.heap[g]? = some c'.o ∧ But g w w' :=
  fld_read h hk (r := (c', i, e)) (by rw [cut_data]; exact HR) (by rw [ByteArray.size_extract]; omega)
end Go.Proofs.Ytfcofhlcainanaa
