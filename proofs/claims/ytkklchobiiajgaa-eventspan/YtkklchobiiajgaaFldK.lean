/- Contracts of Same of the package fields, of equality of things and deltas, of the reference's Is, of the statements' fewThing and fewDelta. -/
import Derived.Test.YtkklchobiiajgaaFldC
import Derived.Test.YtkklchobiiajgaaFldO
import Derived.ChangeKeysEq
namespace Go.Proofs.Ytkklchobiiajgaa
open Go.RowKit
set_option linter.unusedVariables false
theorem equal_fl8 (W : World) (a b : Fl) : (Op.equalIn 9998 40 a.v b.v).run Try.prog W = .ok (eqF a b) W := by
  obtain ⟨n, s⟩ := a
  obtain ⟨m, t⟩ := b
  by_cases h0 : n = m <;> by_cases h1 : s = t <;> simp [go_sem, h0, h1, toList_inj, eqF]
theorem Try.info25s : (Try.prog.info? 40).isSome = true := by kernel_rfl
theorem Try.cellsE25 : Try.prog.cellsOf 40 = 2 := by kernel_rfl
theorem part25 (W : World) (v0 v1 v2 v3 v4 v5 v6 v7 : Value) : (part 40 #[v0, v1, v2, v3, v4, v5, v6, v7] 0).run Try.prog W = .ok (.agg #[v0, v1]) W ∧ (part 40 #[v0, v1, v2, v3, v4, v5, v6, v7] 2).run Try.prog W = .ok (.agg #[v2, v3]) W ∧ (part 40 #[v0, v1, v2, v3, v4, v5, v6, v7] 4).run Try.prog W = .ok (.agg #[v4, v5]) W ∧ (part 40 #[v0, v1, v2, v3, v4, v5, v6, v7] 6).run Try.prog W = .ok (.agg #[v6, v7]) W := by
  refine ⟨?_, ?_, ?_, ?_⟩ <;> kernel_rfl
theorem equal_fs (W : World) (f0 f1 f2 f3 g0 g1 g2 g3 : Fl) : (Op.equalIn 9999 41 (.agg #[.int .i64 f0.n, .string f0.s, .int .i64 f1.n, .string f1.s, .int .i64 f2.n, .string f2.s, .int .i64 f3.n, .string f3.s]) (.agg #[.int .i64 g0.n, .string g0.s, .int .i64 g1.n, .string g1.s, .int .i64 g2.n, .string g2.s, .int .i64 g3.n, .string g3.s])).run Try.prog W = .ok (eqF f0 g0 && (eqF f1 g1 && (eqF f2 g2 && eqF f3 g3))) W := by
  obtain ⟨i, hi⟩ := Option.isSome_iff_exists.1 Try.info25s
  rw [run_equalIn_array W 9998 _ _ Try.underlying41 hi, Try.cellsE25]
  have e := equal_fl8
  unfold Fl.v at e
  simp only [List.range, List.range.loop, Op.eqItems, Sem.run_bind, Nat.zero_mul, Nat.one_mul, part25, Result.andThen_ok, show 2 * 2 = 4 from rfl, show 3 * 2 = 6 from rfl, e]
  cases h0 : eqF f0 g0 <;> cases h1 : eqF f1 g1 <;> cases h2 : eqF f2 g2 <;> cases h3 : eqF f3 g3 <;> simp only [h1, h2, h3, e, Sem.run_bind, Sem.run_pure, part25, Result.andThen_ok, reduceIte, Bool.not_false, Bool.not_true, Bool.false_eq_true, Bool.false_and, Bool.true_and]
set_option maxHeartbeats 2000000 in
theorem equal_dl (W : World) (a b : Dl) : (Op.equalIn 10000 45 a.v b.v).run Try.prog W = .ok (eqD a b) W := by
  obtain ⟨a0, a1, a2, a3, a4, a5, a6, a7⟩ := a
  obtain ⟨b0, b1, b2, b3, b4, b5, b6, b7⟩ := b
  have e := fun W => equal_fs W a4 a5 a6 a7 b4 b5 b6 b7
  by_cases h0 : a0 = b0
  · by_cases h1 : a1 = b1
    · by_cases h2 : a2 = b2
      · by_cases h3 : a3 = b3
        · subst h0 h1 h2 h3
          simp [go_sem, e, eqD]
          cases h4 : eqF a4 b4 <;> cases h5 : eqF a5 b5 <;> cases h6 : eqF a6 b6 <;> cases h7 : eqF a7 b7 <;> rfl
        · simp [go_sem, h0, h1, h2, h3, eqD]
      · simp [go_sem, h0, h1, h2, eqD]
    · have h1' : ¬ (a1 : Int) = b1 := by omega
      simp [go_sem, h0, h1, h1', eqD]
  · simp [go_sem, h0, eqD]
set_option maxHeartbeats 2000000 in
theorem equal_th (W : World) (a b : Th) : (Op.equalIn 10000 43 a.v b.v).run Try.prog W = .ok (eqT a b) W := by
  obtain ⟨a0, a2, a3, a4, a5, a6, a7⟩ := a
  obtain ⟨b0, b2, b3, b4, b5, b6, b7⟩ := b
  have e := fun W => equal_fs W a4 a5 a6 a7 b4 b5 b6 b7
  by_cases h0 : a0 = b0
  · by_cases h2 : a2 = b2
    · by_cases h3 : a3 = b3
      · subst h0 h2 h3
        simp [go_sem, e, eqT]
        cases h4 : eqF a4 b4 <;> cases h5 : eqF a5 b5 <;> cases h6 : eqF a6 b6 <;> cases h7 : eqF a7 b7 <;> rfl
      · simp [go_sem, h0, h2, h3, eqT]
    · simp [go_sem, h0, h2, eqT]
  · simp [go_sem, h0, eqT]
theorem equal_dl_at {a b : Dl} {q : Bool} (h : eqD a b = q) (W : World) : (Op.equalIn 10000 45 a.v b.v).run Try.prog W = .ok q W := by rw [equal_dl, h]
theorem equal_th_at {a b : Th} {q : Bool} (h : eqT a b = q) (W : World) : (Op.equalIn 10000 43 a.v b.v).run Try.prog W = .ok q W := by rw [equal_th, h]
def fewF (f : Fl) : Bool := decide (f.s.size ≤ 40)
theorem fewF_at {f : Fl} {r : Bool} (h : fewF f = r) (w : World) (hs : f.s.size ≤ maxLen) : Calls Try.prog 52 #[f.v] w fun e w' => e = .returned (.bool r) ∧ Below w.heap.size w w' := few_at h w hs
def few4 (g : Nat → Fl) : Bool := fewF (g 0) && (fewF (g 1) && (fewF (g 2) && fewF (g 3)))
theorem few4_no {g : Nat → Fl} {k : Nat} (hk : k < 4) (h : fewF (g k) = false) : few4 g = false := by
  unfold few4
  obtain rfl | rfl | rfl | rfl : k = 0 ∨ k = 1 ∨ k = 2 ∨ k = 3 := by omega
  all_goals rw [h]; simp
theorem few4_yes {g : Nat → Fl} (h : ∀ j, j < 4 → fewF (g j) = true) : few4 g = true := by
  unfold few4
  rw [h 0 (by omega), h 1 (by omega), h 2 (by omega), h 3 (by omega)]; rfl
theorem few_step {g : Nat → Fl} {k : Nat} (h : ∀ j, j < k → fewF (g j) = true) (hk : fewF (g k) = true) : ∀ j, j < k + 1 → fewF (g j) = true := fun j hj => by
  by_cases e : j = k
  · rw [e]; exact hk
  · exact h j (by omega)
def isTK (t : Th) : Nat → Bool
  | 0 => decide (0 ≤ t.id) && decide (t.id ≤ 1000000) && onB t.x t.y
  | k + 1 => isTK t k && isF (t.f k)
theorem isTK_s {t : Th} {k : Nat} {b r : Bool} (h : isTK t k = b) (hr : isF (t.f k) = r) : isTK t (k + 1) = (b && r) := by rw [isTK, h, hr]
theorem fe_all {g : Nat → Fl} (h : inF (g 0) ∧ inF (g 1) ∧ inF (g 2) ∧ inF (g 3)) : (g 0).s.size ≤ maxLen ∧ (g 1).s.size ≤ maxLen ∧ (g 2).s.size ≤ maxLen ∧ (g 3).s.size ≤ maxLen := ⟨h.1.1, h.2.1.1, h.2.2.1.1, h.2.2.2.1⟩
set_option maxHeartbeats 1000000 in
theorem few_thing (w : World) (d : Th) (hi : inT d) : Calls Try.prog 25 #[d.v] w fun e w' => e = .returned (.bool (few4 d.f)) ∧ Below w.heap.size w w' := by
  obtain ⟨i0, i1, i2, i3⟩ := hi
  have s0 := i0.1
  have s1 := i1.1
  have s2 := i2.1
  have s3 := i3.1
  clear i0 i1 i2 i3
  go_enter Try.func25, Try.ntmps25
  go_wp2_with fail
  go_loopw [3] (fun i wr => ∃ k : Nat, k ≤ 4 ∧ i = .int .i64 k ∧ wr.heap[w.heap.size]? = some d.o ∧ (∀ j, j < k → fewF (d.f j) = true) ∧ Below w.heap.size w wr) (fun i _ => 4 - (intOf i).toNat)
  case atStart => exact ⟨0, by omega, rfl, new_at _ _ _ rfl, fun j hj => by omega, below1 _ _⟩
  case round =>
    obtain ⟨k, hk, rfl, h0, hok, hb⟩ := hrel
    have c0 := cells_at h0
    have l0 := at_lt h0
    have H0 := hid h0
    have HO := hid hok
    clear h0 hok
    obtain rfl | rfl | rfl | rfl | rfl : k = 0 ∨ k = 1 ∨ k = 2 ∨ k = 3 ∨ k = 4 := by omega
    · obtain ⟨p, hp⟩ : ∃ p, Hid (fewF d.f0 = p) := ⟨_, rfl⟩
      go_wp2_with fail
      refine (fewF_at hp.out _ s0).mono ?_
      rintro x w2 ⟨rfl, hb2⟩
      have K := hid (var_on hb2 H0.out l0)
      have hB := below_on hb hb2
      clear hb2 hb
      cases p
      · go_wp2_with fail
        go_ret; exact ⟨congrArg (fun x => Ending.returned (.bool x)) ((few4_no (k := 0) (by omega) hp.out).symm), hB⟩
      · go_wp2_with fail
        first | go_roundw | refine ⟨?rel, ?measure⟩
        case rel => exact ⟨1, by omega, rfl, K.out, few_step HO.out hp.out, hB⟩
        case measure => simp [intOf]
    · obtain ⟨p, hp⟩ : ∃ p, Hid (fewF d.f1 = p) := ⟨_, rfl⟩
      go_wp2_with fail
      refine (fewF_at hp.out _ s1).mono ?_
      rintro x w2 ⟨rfl, hb2⟩
      have K := hid (var_on hb2 H0.out l0)
      have hB := below_on hb hb2
      clear hb2 hb
      cases p
      · go_wp2_with fail
        go_ret; exact ⟨congrArg (fun x => Ending.returned (.bool x)) ((few4_no (k := 1) (by omega) hp.out).symm), hB⟩
      · go_wp2_with fail
        first | go_roundw | refine ⟨?rel, ?measure⟩
        case rel => exact ⟨2, by omega, rfl, K.out, few_step HO.out hp.out, hB⟩
        case measure => simp [intOf]
    · obtain ⟨p, hp⟩ : ∃ p, Hid (fewF d.f2 = p) := ⟨_, rfl⟩
      go_wp2_with fail
      refine (fewF_at hp.out _ s2).mono ?_
      rintro x w2 ⟨rfl, hb2⟩
      have K := hid (var_on hb2 H0.out l0)
      have hB := below_on hb hb2
      clear hb2 hb
      cases p
      · go_wp2_with fail
        go_ret; exact ⟨congrArg (fun x => Ending.returned (.bool x)) ((few4_no (k := 2) (by omega) hp.out).symm), hB⟩
      · go_wp2_with fail
        first | go_roundw | refine ⟨?rel, ?measure⟩
        case rel => exact ⟨3, by omega, rfl, K.out, few_step HO.out hp.out, hB⟩
        case measure => simp [intOf]
    · obtain ⟨p, hp⟩ : ∃ p, Hid (fewF d.f3 = p) := ⟨_, rfl⟩
      go_wp2_with fail
      refine (fewF_at hp.out _ s3).mono ?_
      rintro x w2 ⟨rfl, hb2⟩
      have K := hid (var_on hb2 H0.out l0)
      have hB := below_on hb hb2
      clear hb2 hb
      cases p
      · go_wp2_with fail
        go_ret; exact ⟨congrArg (fun x => Ending.returned (.bool x)) ((few4_no (k := 3) (by omega) hp.out).symm), hB⟩
      · go_wp2_with fail
        first | go_roundw | refine ⟨?rel, ?measure⟩
        case rel => exact ⟨4, by omega, rfl, K.out, few_step HO.out hp.out, hB⟩
        case measure => simp [intOf]
    · go_wp2_with fail
      go_ret; exact ⟨congrArg (fun x => Ending.returned (.bool x)) ((few4_yes HO.out).symm), hb⟩
set_option maxHeartbeats 2000000 in
theorem ref_isT (w : World) (d : Th) (hi : inT d) : Calls Try.prog 26 #[d.v] w fun e w' => e = .returned (.bool (isTK d 4)) ∧ Below w.heap.size w w' := by
  obtain ⟨i0, i1, i2, i3⟩ := hi
  have s0 := i0.1
  have s1 := i1.1
  have s2 := i2.1
  have s3 := i3.1
  clear i0 i1 i2 i3
  have K0 : Hid ((w.alloc d.o).heap[w.heap.size]? = some d.o) := new_at _ _ _ rfl
  obtain ⟨o, ho⟩ : ∃ o, Hid (onB d.x d.y = o) := ⟨_, rfl⟩
  by_cases hA : 0 ≤ d.id ∧ d.id ≤ 1000000
  · obtain ⟨a1, a2⟩ := hA
    have B0 : Hid (isTK d 0 = o) := by show isTK d 0 = o; rw [isTK, ho.out]; simp [a1, a2]
    go_enter Try.func26, Try.ntmps26
    go_wp2_with fail
    refine (refOn_at ho.out _).mono ?_
    rintro x w1 ⟨rfl, hb1⟩
    have K1 := hid (var_on hb1 K0.out (at_lt K0.out))
    have hB := below_on (below1 w d.o) hb1
    clear hb1 K0
    go_wp2_with fail
    go_loopw [3, 4] (fun ok i wr => ∃ (k : Nat) (b : Bool), k ≤ 4 ∧ i = .int .i64 k ∧ ok = .bool b ∧ isTK d k = b ∧ wr.heap[w.heap.size]? = some d.o ∧ Below w.heap.size w wr) (fun _ i _ => 4 - (intOf i).toNat)
    case atStart => exact ⟨0, _, by omega, rfl, rfl, B0.out, K1.out, hB⟩
    case round =>
      obtain ⟨k, b, hk, rfl, rfl, hT, h0, hb⟩ := hrel
      have c0 := cells_at h0
      have l0 := at_lt h0
      have H0 := hid h0
      have HT := hid hT
      clear h0 hT
      obtain rfl | rfl | rfl | rfl | rfl : k = 0 ∨ k = 1 ∨ k = 2 ∨ k = 3 ∨ k = 4 := by omega
      · cases b
        · go_wp2_with fail
          first | go_roundw | refine ⟨?rel, ?measure⟩
          case rel => exact ⟨1, false, by omega, rfl, rfl, by rw [isTK, HT.out]; rfl, H0.out, hb⟩
          case measure => simp [intOf]
        · obtain ⟨p, hp⟩ : ∃ p, Hid (isF d.f0 = p) := ⟨_, rfl⟩
          go_wp2_with fail
          refine (refF_at hp.out _ s0).mono ?_
          rintro x w2 ⟨rfl, hb2⟩
          have K := hid (var_on hb2 H0.out l0)
          have hB' := below_on hb hb2
          clear hb2 hb
          go_wp2_with fail
          first | go_roundw | refine ⟨?rel, ?measure⟩
          case rel => exact ⟨1, p, by omega, rfl, rfl, by rw [isTK_s HT.out (hp.out : isF (d.f 0) = p)]; rfl, K.out, hB'⟩
          case measure => simp [intOf]
      · cases b
        · go_wp2_with fail
          first | go_roundw | refine ⟨?rel, ?measure⟩
          case rel => exact ⟨2, false, by omega, rfl, rfl, by rw [isTK, HT.out]; rfl, H0.out, hb⟩
          case measure => simp [intOf]
        · obtain ⟨p, hp⟩ : ∃ p, Hid (isF d.f1 = p) := ⟨_, rfl⟩
          go_wp2_with fail
          refine (refF_at hp.out _ s1).mono ?_
          rintro x w2 ⟨rfl, hb2⟩
          have K := hid (var_on hb2 H0.out l0)
          have hB' := below_on hb hb2
          clear hb2 hb
          go_wp2_with fail
          first | go_roundw | refine ⟨?rel, ?measure⟩
          case rel => exact ⟨2, p, by omega, rfl, rfl, by rw [isTK_s HT.out (hp.out : isF (d.f 1) = p)]; rfl, K.out, hB'⟩
          case measure => simp [intOf]
      · cases b
        · go_wp2_with fail
          first | go_roundw | refine ⟨?rel, ?measure⟩
          case rel => exact ⟨3, false, by omega, rfl, rfl, by rw [isTK, HT.out]; rfl, H0.out, hb⟩
          case measure => simp [intOf]
        · obtain ⟨p, hp⟩ : ∃ p, Hid (isF d.f2 = p) := ⟨_, rfl⟩
          go_wp2_with fail
          refine (refF_at hp.out _ s2).mono ?_
          rintro x w2 ⟨rfl, hb2⟩
          have K := hid (var_on hb2 H0.out l0)
          have hB' := below_on hb hb2
          clear hb2 hb
          go_wp2_with fail
          first | go_roundw | refine ⟨?rel, ?measure⟩
          case rel => exact ⟨3, p, by omega, rfl, rfl, by rw [isTK_s HT.out (hp.out : isF (d.f 2) = p)]; rfl, K.out, hB'⟩
          case measure => simp [intOf]
      · cases b
        · go_wp2_with fail
          first | go_roundw | refine ⟨?rel, ?measure⟩
          case rel => exact ⟨4, false, by omega, rfl, rfl, by rw [isTK, HT.out]; rfl, H0.out, hb⟩
          case measure => simp [intOf]
        · obtain ⟨p, hp⟩ : ∃ p, Hid (isF d.f3 = p) := ⟨_, rfl⟩
          go_wp2_with fail
          refine (refF_at hp.out _ s3).mono ?_
          rintro x w2 ⟨rfl, hb2⟩
          have K := hid (var_on hb2 H0.out l0)
          have hB' := below_on hb hb2
          clear hb2 hb
          go_wp2_with fail
          first | go_roundw | refine ⟨?rel, ?measure⟩
          case rel => exact ⟨4, p, by omega, rfl, rfl, by rw [isTK_s HT.out (hp.out : isF (d.f 3) = p)]; rfl, K.out, hB'⟩
          case measure => simp [intOf]
      · go_wp2_with fail
        go_ret; exact ⟨congrArg (fun x => Ending.returned (.bool x)) (HT.out.symm), hb⟩
  · have B0 : Hid (isTK d 0 = false) := by
      show isTK d 0 = false
      rw [isTK]
      cases h1 : decide (0 ≤ d.id) <;> cases h2 : decide (d.id ≤ 1000000) <;> simp at h1 h2 ⊢
      omega
    by_cases h1 : 0 ≤ d.id
    · have h2 : 1000000 < d.id := by omega
      clear hA
      go_enter Try.func26, Try.ntmps26
      go_wp2_with fail
      go_loopw [3, 4] (fun ok i wr => ∃ (k : Nat) (b : Bool), k ≤ 4 ∧ i = .int .i64 k ∧ ok = .bool b ∧ isTK d k = b ∧ wr.heap[w.heap.size]? = some d.o ∧ Below w.heap.size w wr) (fun _ i _ => 4 - (intOf i).toNat)
      case atStart => exact ⟨0, _, by omega, rfl, rfl, B0.out, K0.out, below1 _ _⟩
      case round =>
        obtain ⟨k, b, hk, rfl, rfl, hT, h0, hb⟩ := hrel
        have c0 := cells_at h0
        have l0 := at_lt h0
        have H0 := hid h0
        have HT := hid hT
        clear h0 hT
        obtain rfl | rfl | rfl | rfl | rfl : k = 0 ∨ k = 1 ∨ k = 2 ∨ k = 3 ∨ k = 4 := by omega
        · cases b
          · go_wp2_with fail
            first | go_roundw | refine ⟨?rel, ?measure⟩
            case rel => exact ⟨1, false, by omega, rfl, rfl, by rw [isTK, HT.out]; rfl, H0.out, hb⟩
            case measure => simp [intOf]
          · obtain ⟨p, hp⟩ : ∃ p, Hid (isF d.f0 = p) := ⟨_, rfl⟩
            go_wp2_with fail
            refine (refF_at hp.out _ s0).mono ?_
            rintro x w2 ⟨rfl, hb2⟩
            have K := hid (var_on hb2 H0.out l0)
            have hB' := below_on hb hb2
            clear hb2 hb
            go_wp2_with fail
            first | go_roundw | refine ⟨?rel, ?measure⟩
            case rel => exact ⟨1, p, by omega, rfl, rfl, by rw [isTK_s HT.out (hp.out : isF (d.f 0) = p)]; rfl, K.out, hB'⟩
            case measure => simp [intOf]
        · cases b
          · go_wp2_with fail
            first | go_roundw | refine ⟨?rel, ?measure⟩
            case rel => exact ⟨2, false, by omega, rfl, rfl, by rw [isTK, HT.out]; rfl, H0.out, hb⟩
            case measure => simp [intOf]
          · obtain ⟨p, hp⟩ : ∃ p, Hid (isF d.f1 = p) := ⟨_, rfl⟩
            go_wp2_with fail
            refine (refF_at hp.out _ s1).mono ?_
            rintro x w2 ⟨rfl, hb2⟩
            have K := hid (var_on hb2 H0.out l0)
            have hB' := below_on hb hb2
            clear hb2 hb
            go_wp2_with fail
            first | go_roundw | refine ⟨?rel, ?measure⟩
            case rel => exact ⟨2, p, by omega, rfl, rfl, by rw [isTK_s HT.out (hp.out : isF (d.f 1) = p)]; rfl, K.out, hB'⟩
            case measure => simp [intOf]
        · cases b
          · go_wp2_with fail
            first | go_roundw | refine ⟨?rel, ?measure⟩
            case rel => exact ⟨3, false, by omega, rfl, rfl, by rw [isTK, HT.out]; rfl, H0.out, hb⟩
            case measure => simp [intOf]
          · obtain ⟨p, hp⟩ : ∃ p, Hid (isF d.f2 = p) := ⟨_, rfl⟩
            go_wp2_with fail
            refine (refF_at hp.out _ s2).mono ?_
            rintro x w2 ⟨rfl, hb2⟩
            have K := hid (var_on hb2 H0.out l0)
            have hB' := below_on hb hb2
            clear hb2 hb
            go_wp2_with fail
            first | go_roundw | refine ⟨?rel, ?measure⟩
            case rel => exact ⟨3, p, by omega, rfl, rfl, by rw [isTK_s HT.out (hp.out : isF (d.f 2) = p)]; rfl, K.out, hB'⟩
            case measure => simp [intOf]
        · cases b
          · go_wp2_with fail
            first | go_roundw | refine ⟨?rel, ?measure⟩
            case rel => exact ⟨4, false, by omega, rfl, rfl, by rw [isTK, HT.out]; rfl, H0.out, hb⟩
            case measure => simp [intOf]
          · obtain ⟨p, hp⟩ : ∃ p, Hid (isF d.f3 = p) := ⟨_, rfl⟩
            go_wp2_with fail
            refine (refF_at hp.out _ s3).mono ?_
            rintro x w2 ⟨rfl, hb2⟩
            have K := hid (var_on hb2 H0.out l0)
            have hB' := below_on hb hb2
            clear hb2 hb
            go_wp2_with fail
            first | go_roundw | refine ⟨?rel, ?measure⟩
            case rel => exact ⟨4, p, by omega, rfl, rfl, by rw [isTK_s HT.out (hp.out : isF (d.f 3) = p)]; rfl, K.out, hB'⟩
            case measure => simp [intOf]
        · go_wp2_with fail
          go_ret; exact ⟨congrArg (fun x => Ending.returned (.bool x)) (HT.out.symm), hb⟩
    · have h2 : d.id < 0 := by omega
      clear hA h1
      go_enter Try.func26, Try.ntmps26
      go_wp2_with fail
      go_loopw [3, 4] (fun ok i wr => ∃ (k : Nat) (b : Bool), k ≤ 4 ∧ i = .int .i64 k ∧ ok = .bool b ∧ isTK d k = b ∧ wr.heap[w.heap.size]? = some d.o ∧ Below w.heap.size w wr) (fun _ i _ => 4 - (intOf i).toNat)
      case atStart => exact ⟨0, _, by omega, rfl, rfl, B0.out, K0.out, below1 _ _⟩
      case round =>
        obtain ⟨k, b, hk, rfl, rfl, hT, h0, hb⟩ := hrel
        have c0 := cells_at h0
        have l0 := at_lt h0
        have H0 := hid h0
        have HT := hid hT
        clear h0 hT
        obtain rfl | rfl | rfl | rfl | rfl : k = 0 ∨ k = 1 ∨ k = 2 ∨ k = 3 ∨ k = 4 := by omega
        · cases b
          · go_wp2_with fail
            first | go_roundw | refine ⟨?rel, ?measure⟩
            case rel => exact ⟨1, false, by omega, rfl, rfl, by rw [isTK, HT.out]; rfl, H0.out, hb⟩
            case measure => simp [intOf]
          · obtain ⟨p, hp⟩ : ∃ p, Hid (isF d.f0 = p) := ⟨_, rfl⟩
            go_wp2_with fail
            refine (refF_at hp.out _ s0).mono ?_
            rintro x w2 ⟨rfl, hb2⟩
            have K := hid (var_on hb2 H0.out l0)
            have hB' := below_on hb hb2
            clear hb2 hb
            go_wp2_with fail
            first | go_roundw | refine ⟨?rel, ?measure⟩
            case rel => exact ⟨1, p, by omega, rfl, rfl, by rw [isTK_s HT.out (hp.out : isF (d.f 0) = p)]; rfl, K.out, hB'⟩
            case measure => simp [intOf]
        · cases b
          · go_wp2_with fail
            first | go_roundw | refine ⟨?rel, ?measure⟩
            case rel => exact ⟨2, false, by omega, rfl, rfl, by rw [isTK, HT.out]; rfl, H0.out, hb⟩
            case measure => simp [intOf]
          · obtain ⟨p, hp⟩ : ∃ p, Hid (isF d.f1 = p) := ⟨_, rfl⟩
            go_wp2_with fail
            refine (refF_at hp.out _ s1).mono ?_
            rintro x w2 ⟨rfl, hb2⟩
            have K := hid (var_on hb2 H0.out l0)
            have hB' := below_on hb hb2
            clear hb2 hb
            go_wp2_with fail
            first | go_roundw | refine ⟨?rel, ?measure⟩
            case rel => exact ⟨2, p, by omega, rfl, rfl, by rw [isTK_s HT.out (hp.out : isF (d.f 1) = p)]; rfl, K.out, hB'⟩
            case measure => simp [intOf]
        · cases b
          · go_wp2_with fail
            first | go_roundw | refine ⟨?rel, ?measure⟩
            case rel => exact ⟨3, false, by omega, rfl, rfl, by rw [isTK, HT.out]; rfl, H0.out, hb⟩
            case measure => simp [intOf]
          · obtain ⟨p, hp⟩ : ∃ p, Hid (isF d.f2 = p) := ⟨_, rfl⟩
            go_wp2_with fail
            refine (refF_at hp.out _ s2).mono ?_
            rintro x w2 ⟨rfl, hb2⟩
            have K := hid (var_on hb2 H0.out l0)
            have hB' := below_on hb hb2
            clear hb2 hb
            go_wp2_with fail
            first | go_roundw | refine ⟨?rel, ?measure⟩
            case rel => exact ⟨3, p, by omega, rfl, rfl, by rw [isTK_s HT.out (hp.out : isF (d.f 2) = p)]; rfl, K.out, hB'⟩
            case measure => simp [intOf]
        · cases b
          · go_wp2_with fail
            first | go_roundw | refine ⟨?rel, ?measure⟩
            case rel => exact ⟨4, false, by omega, rfl, rfl, by rw [isTK, HT.out]; rfl, H0.out, hb⟩
            case measure => simp [intOf]
          · obtain ⟨p, hp⟩ : ∃ p, Hid (isF d.f3 = p) := ⟨_, rfl⟩
            go_wp2_with fail
            refine (refF_at hp.out _ s3).mono ?_
            rintro x w2 ⟨rfl, hb2⟩
            have K := hid (var_on hb2 H0.out l0)
            have hB' := below_on hb hb2
            clear hb2 hb
            go_wp2_with fail
            first | go_roundw | refine ⟨?rel, ?measure⟩
            case rel => exact ⟨4, p, by omega, rfl, rfl, by rw [isTK_s HT.out (hp.out : isF (d.f 3) = p)]; rfl, K.out, hB'⟩
            case measure => simp [intOf]
        · go_wp2_with fail
          go_ret; exact ⟨congrArg (fun x => Ending.returned (.bool x)) (HT.out.symm), hb⟩
end Go.Proofs.Ytkklchobiiajgaa
