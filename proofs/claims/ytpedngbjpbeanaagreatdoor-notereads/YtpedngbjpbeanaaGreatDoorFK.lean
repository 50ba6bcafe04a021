/- Equality of fields, things; what is told is read. -/
import Derived.Test.YtpedngbjpbeanaaGreatDoorFC
import Derived.ChangeKeysEq
namespace Go.Proofs.YtpedngbjpbeanaaGreatDoor
section
open Go.RowKit
set_option linter.unusedVariables false
theorem equal_fl8 (W : World) (a b : Fl) : (Op.equalIn 9998 47 a.v b.v).run Tryz.prog W = .ok (eqF a b) W := by
  obtain ⟨n, s⟩ := a
  obtain ⟨m, t⟩ := b
  by_cases h0 : n = m <;> by_cases h1 : s = t <;> simp [go_sem, h0, h1, toList_inj, eqF]
theorem Tryz.info25s : (Tryz.prog.info? 47).isSome = true := by kernel_rfl
theorem Tryz.cellsE25 : Tryz.prog.cellsOf 47 = 2 := by kernel_rfl
theorem part25 (W : World) (v0 v1 v2 v3 v4 v5 v6 v7 : Value) : (part 47 #[v0, v1, v2, v3, v4, v5, v6, v7] 0).run Tryz.prog W = .ok (.agg #[v0, v1]) W ∧ (part 47 #[v0, v1, v2, v3, v4, v5, v6, v7] 2).run Tryz.prog W = .ok (.agg #[v2, v3]) W ∧ (part 47 #[v0, v1, v2, v3, v4, v5, v6, v7] 4).run Tryz.prog W = .ok (.agg #[v4, v5]) W ∧ (part 47 #[v0, v1, v2, v3, v4, v5, v6, v7] 6).run Tryz.prog W = .ok (.agg #[v6, v7]) W := by
  refine ⟨?_, ?_, ?_, ?_⟩ <;> kernel_rfl
theorem equal_fs (W : World) (f0 f1 f2 f3 g0 g1 g2 g3 : Fl) : (Op.equalIn 9999 48 (.agg #[.int .i64 f0.n, .string f0.s, .int .i64 f1.n, .string f1.s, .int .i64 f2.n, .string f2.s, .int .i64 f3.n, .string f3.s]) (.agg #[.int .i64 g0.n, .string g0.s, .int .i64 g1.n, .string g1.s, .int .i64 g2.n, .string g2.s, .int .i64 g3.n, .string g3.s])).run Tryz.prog W = .ok (eqF f0 g0 && (eqF f1 g1 && (eqF f2 g2 && eqF f3 g3))) W := by
  obtain ⟨i, hi⟩ := Option.isSome_iff_exists.1 Tryz.info25s
  rw [run_equalIn_array W 9998 _ _ Tryz.underlying48 hi, Tryz.cellsE25]
  have e := equal_fl8
  unfold Fl.v at e
  simp only [List.range, List.range.loop, Op.eqItems, Sem.run_bind, Nat.zero_mul, Nat.one_mul, part25, Result.andThen_ok, show 2 * 2 = 4 from rfl, show 3 * 2 = 6 from rfl, e]
  cases h0 : eqF f0 g0 <;> cases h1 : eqF f1 g1 <;> cases h2 : eqF f2 g2 <;> cases h3 : eqF f3 g3 <;> simp only [h1, h2, h3, e, Sem.run_bind, Sem.run_pure, part25, Result.andThen_ok, reduceIte, Bool.not_false, Bool.not_true, Bool.false_eq_true, Bool.false_and, Bool.true_and]
set_option maxHeartbeats 2000000 in
theorem equal_dl (W : World) (a b : Dl) : (Op.equalIn 10000 123 a.v b.v).run Tryz.prog W = .ok (eqD a b) W := by
  obtain ⟨a0, a1, a2, a3, a4, a5, a6, a7⟩ := a
  obtain ⟨b0, b1, b2, b3, b4, b5, b6, b7⟩ := b
  have e := fun W => equal_fs W a4 a5 a6 a7 b4 b5 b6 b7
  by_cases h0 : a0 = b0
  · by_cases h1 : a1 = b1
    · by_cases h2 : a2 = b2
      · by_cases h3 : a3 = b3
        · subst h0 h1 h2 h3
          simp [go_sem, e, eqD]
          cases h4 : eqF a4 b4 <;> cases h5 : eqF a5 b5 <;> cases h6 : eqF a6 b6 <;> cases h7 : eqF a7 b7 <;> rfl
        · simp [go_sem, h0, h1, h2, h3, eqD]
      · simp [go_sem, h0, h1, h2, eqD]
    · have h1' : ¬ (a1 : Int) = b1 := by omega
      simp [go_sem, h0, h1, h1', eqD]
  · simp [go_sem, h0, eqD]
set_option maxHeartbeats 2000000 in
theorem equal_th (W : World) (a b : Th) : (Op.equalIn 10000 50 a.v b.v).run Tryz.prog W = .ok (eqT a b) W := by
  obtain ⟨a0, a2, a3, a4, a5, a6, a7⟩ := a
  obtain ⟨b0, b2, b3, b4, b5, b6, b7⟩ := b
  have e := fun W => equal_fs W a4 a5 a6 a7 b4 b5 b6 b7
  by_cases h0 : a0 = b0
  · by_cases h2 : a2 = b2
    · by_cases h3 : a3 = b3
      · subst h0 h2 h3
        simp [go_sem, e, eqT]
        cases h4 : eqF a4 b4 <;> cases h5 : eqF a5 b5 <;> cases h6 : eqF a6 b6 <;> cases h7 : eqF a7 b7 <;> rfl
      · simp [go_sem, h0, h2, h3, eqT]
    · simp [go_sem, h0, h2, eqT]
  · simp [go_sem, h0, eqT]
theorem equal_dl_at {a b : Dl} {q : Bool} (h : eqD a b = q) (W : World) : (Op.equalIn 10000 123 a.v b.v).run Tryz.prog W = .ok q W := by rw [equal_dl, h]
theorem equal_th_at {a b : Th} {q : Bool} (h : eqT a b = q) (W : World) : (Op.equalIn 10000 50 a.v b.v).run Tryz.prog W = .ok q W := by rw [equal_th, h]
def fewF (f : Fl) : Bool := decide (f.s.size ≤ 40)
theorem fewF_at {f : Fl} {r : Bool} (h : fewF f = r) (w : World) (hs : f.s.size ≤ maxLen) : Calls Tryz.prog 68 #[f.v] w fun e w' => e = .returned (.bool r) ∧ Below w.heap.size w w' := few_at h w hs
def few4 (g : Nat → Fl) : Bool := fewF (g 0) && (fewF (g 1) && (fewF (g 2) && fewF (g 3)))
theorem few4_no {g : Nat → Fl} {k : Nat} (hk : k < 4) (h : fewF (g k) = false) : few4 g = false := by
  unfold few4
  obtain rfl | rfl | rfl | rfl : k = 0 ∨ k = 1 ∨ k = 2 ∨ k = 3 := by omega
  all_goals rw [h]; simp
theorem few4_yes {g : Nat → Fl} (h : ∀ j, j < 4 → fewF (g j) = true) : few4 g = true := by
  unfold few4
  rw [h 0 (by omega), h 1 (by omega), h 2 (by omega), h 3 (by omega)]; rfl
theorem few_step {g : Nat → Fl} {k : Nat} (h : ∀ j, j < k → fewF (g j) = true) (hk : fewF (g k) = true) : ∀ j, j < k + 1 → fewF (g j) = true := fun j hj => by
  by_cases e : j = k
  · rw [e]; exact hk
  · exact h j (by omega)
def isTK (t : Th) : Nat → Bool
  | 0 => decide (0 ≤ t.id) && decide (t.id ≤ 1000000) && onB t.x t.y
  | k + 1 => isTK t k && isF (t.f k)
theorem isTK_s {t : Th} {k : Nat} {b r : Bool} (h : isTK t k = b) (hr : isF (t.f k) = r) : isTK t (k + 1) = (b && r) := by rw [isTK, h, hr]
theorem fe_all {g : Nat → Fl} (h : inF (g 0) ∧ inF (g 1) ∧ inF (g 2) ∧ inF (g 3)) : (g 0).s.size ≤ maxLen ∧ (g 1).s.size ≤ maxLen ∧ (g 2).s.size ≤ maxLen ∧ (g 3).s.size ≤ maxLen := ⟨h.1.1, h.2.1.1, h.2.2.1.1, h.2.2.2.1⟩
set_option maxHeartbeats 1000000 in
theorem few_thing (w : World) (d : Th) (hi : inT d) : Calls Tryz.prog 41 #[d.v] w fun e w' => e = .returned (.bool (few4 d.f)) ∧ Below w.heap.size w w' := by
  obtain ⟨i0, i1, i2, i3⟩ := hi
  have s0 := i0.1
  have s1 := i1.1
  have s2 := i2.1
  have s3 := i3.1
  clear i0 i1 i2 i3
  go_enter Tryz.func41, Tryz.ntmps41
  go_wp2_with fail
  go_loopw [3] (fun i wr => ∃ k : Nat, k ≤ 4 ∧ i = .int .i64 k ∧ wr.heap[w.heap.size]? = some d.o ∧ (∀ j, j < k → fewF (d.f j) = true) ∧ Below w.heap.size w wr) (fun i _ => 4 - (intOf i).toNat)
  case atStart => exact ⟨0, by omega, rfl, new_at _ _ _ rfl, fun j hj => by omega, below1 _ _⟩
  case round =>
    obtain ⟨k, hk, rfl, h0, hok, hb⟩ := hrel
    have c0 := cells_at h0
    have l0 := at_lt h0
    have H0 := hid h0
    have HO := hid hok
    clear h0 hok
    obtain rfl | rfl | rfl | rfl | rfl : k = 0 ∨ k = 1 ∨ k = 2 ∨ k = 3 ∨ k = 4 := by omega
    · obtain ⟨p, hp⟩ : ∃ p, Hid (fewF d.f0 = p) := ⟨_, rfl⟩
      go_wp2_with fail
      refine (fewF_at hp.out _ s0).mono ?_
      rintro x w2 ⟨rfl, hb2⟩
      have K := hid (var_on hb2 H0.out l0)
      have hB := below_on hb hb2
      clear hb2 hb
      cases p
      · go_wp2_with fail
        go_ret; exact ⟨congrArg (fun x => Ending.returned (.bool x)) ((few4_no (k := 0) (by omega) hp.out).symm), hB⟩
      · go_wp2_with fail
        first | go_roundw | refine ⟨?rel, ?measure⟩
        case rel => exact ⟨1, by omega, rfl, K.out, few_step HO.out hp.out, hB⟩
        case measure => simp [intOf]
    · obtain ⟨p, hp⟩ : ∃ p, Hid (fewF d.f1 = p) := ⟨_, rfl⟩
      go_wp2_with fail
      refine (fewF_at hp.out _ s1).mono ?_
      rintro x w2 ⟨rfl, hb2⟩
      have K := hid (var_on hb2 H0.out l0)
      have hB := below_on hb hb2
      clear hb2 hb
      cases p
      · go_wp2_with fail
        go_ret; exact ⟨congrArg (fun x => Ending.returned (.bool x)) ((few4_no (k := 1) (by omega) hp.out).symm), hB⟩
      · go_wp2_with fail
        first | go_roundw | refine ⟨?rel, ?measure⟩
        case rel => exact ⟨2, by omega, rfl, K.out, few_step HO.out hp.out, hB⟩
        case measure => simp [intOf]
    · obtain ⟨p, hp⟩ : ∃ p, Hid (fewF d.f2 = p) := ⟨_, rfl⟩
      go_wp2_with fail
      refine (fewF_at hp.out _ s2).mono ?_
      rintro x w2 ⟨rfl, hb2⟩
      have K := hid (var_on hb2 H0.out l0)
      have hB := below_on hb hb2
      clear hb2 hb
      cases p
      · go_wp2_with fail
        go_ret; exact ⟨congrArg (fun x => Ending.returned (.bool x)) ((few4_no (k := 2) (by omega) hp.out).symm), hB⟩
      · go_wp2_with fail
        first | go_roundw | refine ⟨?rel, ?measure⟩
        case rel => exact ⟨3, by omega, rfl, K.out, few_step HO.out hp.out, hB⟩
        case measure => simp [intOf]
    · obtain ⟨p, hp⟩ : ∃ p, Hid (fewF d.f3 = p) := ⟨_, rfl⟩
      go_wp2_with fail
      refine (fewF_at hp.out _ s3).mono ?_
      rintro x w2 ⟨rfl, hb2⟩
      have K := hid (var_on hb2 H0.out l0)
      have hB := below_on hb hb2
      clear hb2 hb
      cases p
      · go_wp2_with fail
        go_ret; exact ⟨congrArg (fun x => Ending.returned (.bool x)) ((few4_no (k := 3) (by omega) hp.out).symm), hB⟩
      · go_wp2_with fail
        first | go_roundw | refine ⟨?rel, ?measure⟩
        case rel => exact ⟨4, by omega, rfl, K.out, few_step HO.out hp.out, hB⟩
        case measure => simp [intOf]
    · go_wp2_with fail
      go_ret; exact ⟨congrArg (fun x => Ending.returned (.bool x)) ((few4_yes HO.out).symm), hb⟩
set_option maxHeartbeats 2000000 in
theorem ref_isT (w : World) (d : Th) (hi : inT d) : Calls Tryz.prog 51 #[d.v] w fun e w' => e = .returned (.bool (isTK d 4)) ∧ Below w.heap.size w w' := by
  obtain ⟨i0, i1, i2, i3⟩ := hi
  have s0 := i0.1
  have s1 := i1.1
  have s2 := i2.1
  have s3 := i3.1
  clear i0 i1 i2 i3
  have K0 : Hid ((w.alloc d.o).heap[w.heap.size]? = some d.o) := new_at _ _ _ rfl
  obtain ⟨o, ho⟩ : ∃ o, Hid (onB d.x d.y = o) := ⟨_, rfl⟩
  by_cases hA : 0 ≤ d.id ∧ d.id ≤ 1000000
  · obtain ⟨a1, a2⟩ := hA
    have B0 : Hid (isTK d 0 = o) := by show isTK d 0 = o; rw [isTK, ho.out]; simp [a1, a2]
    go_enter Tryz.func51, Tryz.ntmps51
    go_wp2_with fail
    refine (refOn_at ho.out _).mono ?_
    rintro x w1 ⟨rfl, hb1⟩
    have K1 := hid (var_on hb1 K0.out (at_lt K0.out))
    have hB := below_on (below1 w d.o) hb1
    clear hb1 K0
    go_wp2_with fail
    go_loopw [3, 4] (fun ok i wr => ∃ (k : Nat) (b : Bool), k ≤ 4 ∧ i = .int .i64 k ∧ ok = .bool b ∧ isTK d k = b ∧ wr.heap[w.heap.size]? = some d.o ∧ Below w.heap.size w wr) (fun _ i _ => 4 - (intOf i).toNat)
    case atStart => exact ⟨0, _, by omega, rfl, rfl, B0.out, K1.out, hB⟩
    case round =>
      obtain ⟨k, b, hk, rfl, rfl, hT, h0, hb⟩ := hrel
      have c0 := cells_at h0
      have l0 := at_lt h0
      have H0 := hid h0
      have HT := hid hT
      clear h0 hT
      obtain rfl | rfl | rfl | rfl | rfl : k = 0 ∨ k = 1 ∨ k = 2 ∨ k = 3 ∨ k = 4 := by omega
      · cases b
        · go_wp2_with fail
          first | go_roundw | refine ⟨?rel, ?measure⟩
          case rel => exact ⟨1, false, by omega, rfl, rfl, by rw [isTK, HT.out]; rfl, H0.out, hb⟩
          case measure => simp [intOf]
        · obtain ⟨p, hp⟩ : ∃ p, Hid (isF d.f0 = p) := ⟨_, rfl⟩
          go_wp2_with fail
          refine (refF_at hp.out _ s0).mono ?_
          rintro x w2 ⟨rfl, hb2⟩
          have K := hid (var_on hb2 H0.out l0)
          have hB' := below_on hb hb2
          clear hb2 hb
          go_wp2_with fail
          first | go_roundw | refine ⟨?rel, ?measure⟩
          case rel => exact ⟨1, p, by omega, rfl, rfl, by rw [isTK_s HT.out (hp.out : isF (d.f 0) = p)]; rfl, K.out, hB'⟩
          case measure => simp [intOf]
      · cases b
        · go_wp2_with fail
          first | go_roundw | refine ⟨?rel, ?measure⟩
          case rel => exact ⟨2, false, by omega, rfl, rfl, by rw [isTK, HT.out]; rfl, H0.out, hb⟩
          case measure => simp [intOf]
        · obtain ⟨p, hp⟩ : ∃ p, Hid (isF d.f1 = p) := ⟨_, rfl⟩
          go_wp2_with fail
          refine (refF_at hp.out _ s1).mono ?_
          rintro x w2 ⟨rfl, hb2⟩
          have K := hid (var_on hb2 H0.out l0)
          have hB' := below_on hb hb2
          clear hb2 hb
          go_wp2_with fail
          first | go_roundw | refine ⟨?rel, ?measure⟩
          case rel => exact ⟨2, p, by omega, rfl, rfl, by rw [isTK_s HT.out (hp.out : isF (d.f 1) = p)]; rfl, K.out, hB'⟩
          case measure => simp [intOf]
      · cases b
        · go_wp2_with fail
          first | go_roundw | refine ⟨?rel, ?measure⟩
          case rel => exact ⟨3, false, by omega, rfl, rfl, by rw [isTK, HT.out]; rfl, H0.out, hb⟩
          case measure => simp [intOf]
        · obtain ⟨p, hp⟩ : ∃ p, Hid (isF d.f2 = p) := ⟨_, rfl⟩
          go_wp2_with fail
          refine (refF_at hp.out _ s2).mono ?_
          rintro x w2 ⟨rfl, hb2⟩
          have K := hid (var_on hb2 H0.out l0)
          have hB' := below_on hb hb2
          clear hb2 hb
          go_wp2_with fail
          first | go_roundw | refine ⟨?rel, ?measure⟩
          case rel => exact ⟨3, p, by omega, rfl, rfl, by rw [isTK_s HT.out (hp.out : isF (d.f 2) = p)]; rfl, K.out, hB'⟩
          case measure => simp [intOf]
      · cases b
        · go_wp2_with fail
          first | go_roundw | refine ⟨?rel, ?measure⟩
          case rel => exact ⟨4, false, by omega, rfl, rfl, by rw [isTK, HT.out]; rfl, H0.out, hb⟩
          case measure => simp [intOf]
        · obtain ⟨p, hp⟩ : ∃ p, Hid (isF d.f3 = p) := ⟨_, rfl⟩
          go_wp2_with fail
          refine (refF_at hp.out _ s3).mono ?_
          rintro x w2 ⟨rfl, hb2⟩
          have K := hid (var_on hb2 H0.out l0)
          have hB' := below_on hb hb2
          clear hb2 hb
          go_wp2_with fail
          first | go_roundw | refine ⟨?rel, ?measure⟩
          case rel => exact ⟨4, p, by omega, rfl, rfl, by rw [isTK_s HT.out (hp.out : isF (d.f 3) = p)]; rfl, K.out, hB'⟩
          case measure => simp [intOf]
      · go_wp2_with fail
        go_ret; exact ⟨congrArg (fun x => Ending.returned (.bool x)) (HT.out.symm), hb⟩
  · have B0 : Hid (isTK d 0 = false) := by
      show isTK d 0 = false
      rw [isTK]
      cases h1 : decide (0 ≤ d.id) <;> cases h2 : decide (d.id ≤ 1000000) <;> simp at h1 h2 ⊢
      omega
    by_cases h1 : 0 ≤ d.id
    · have h2 : 1000000 < d.id := by omega
      clear hA
      go_enter Tryz.func51, Tryz.ntmps51
      go_wp2_with fail
      go_loopw [3, 4] (fun ok i wr => ∃ (k : Nat) (b : Bool), k ≤ 4 ∧ i = .int .i64 k ∧ ok = .bool b ∧ isTK d k = b ∧ wr.heap[w.heap.size]? = some d.o ∧ Below w.heap.size w wr) (fun _ i _ => 4 - (intOf i).toNat)
      case atStart => exact ⟨0, _, by omega, rfl, rfl, B0.out, K0.out, below1 _ _⟩
      case round =>
        obtain ⟨k, b, hk, rfl, rfl, hT, h0, hb⟩ := hrel
        have c0 := cells_at h0
        have l0 := at_lt h0
        have H0 := hid h0
        have HT := hid hT
        clear h0 hT
        obtain rfl | rfl | rfl | rfl | rfl : k = 0 ∨ k = 1 ∨ k = 2 ∨ k = 3 ∨ k = 4 := by omega
        · cases b
          · go_wp2_with fail
            first | go_roundw | refine ⟨?rel, ?measure⟩
            case rel => exact ⟨1, false, by omega, rfl, rfl, by rw [isTK, HT.out]; rfl, H0.out, hb⟩
            case measure => simp [intOf]
          · obtain ⟨p, hp⟩ : ∃ p, Hid (isF d.f0 = p) := ⟨_, rfl⟩
            go_wp2_with fail
            refine (refF_at hp.out _ s0).mono ?_
            rintro x w2 ⟨rfl, hb2⟩
            have K := hid (var_on hb2 H0.out l0)
            have hB' := below_on hb hb2
            clear hb2 hb
            go_wp2_with fail
            first | go_roundw | refine ⟨?rel, ?measure⟩
            case rel => exact ⟨1, p, by omega, rfl, rfl, by rw [isTK_s HT.out (hp.out : isF (d.f 0) = p)]; rfl, K.out, hB'⟩
            case measure => simp [intOf]
        · cases b
          · go_wp2_with fail
            first | go_roundw | refine ⟨?rel, ?measure⟩
            case rel => exact ⟨2, false, by omega, rfl, rfl, by rw [isTK, HT.out]; rfl, H0.out, hb⟩
            case measure => simp [intOf]
          · obtain ⟨p, hp⟩ : ∃ p, Hid (isF d.f1 = p) := ⟨_, rfl⟩
            go_wp2_with fail
            refine (refF_at hp.out _ s1).mono ?_
            rintro x w2 ⟨rfl, hb2⟩
            have K := hid (var_on hb2 H0.out l0)
            have hB' := below_on hb hb2
            clear hb2 hb
            go_wp2_with fail
            first | go_roundw | refine ⟨?rel, ?measure⟩
            case rel => exact ⟨2, p, by omega, rfl, rfl, by rw [isTK_s HT.out (hp.out : isF (d.f 1) = p)]; rfl, K.out, hB'⟩
            case measure => simp [intOf]
        · cases b
          · go_wp2_with fail
            first | go_roundw | refine ⟨?rel, ?measure⟩
            case rel => exact ⟨3, false, by omega, rfl, rfl, by rw [isTK, HT.out]; rfl, H0.out, hb⟩
            case measure => simp [intOf]
          · obtain ⟨p, hp⟩ : ∃ p, Hid (isF d.f2 = p) := ⟨_, rfl⟩
            go_wp2_with fail
            refine (refF_at hp.out _ s2).mono ?_
            rintro x w2 ⟨rfl, hb2⟩
            have K := hid (var_on hb2 H0.out l0)
            have hB' := below_on hb hb2
            clear hb2 hb
            go_wp2_with fail
            first | go_roundw | refine ⟨?rel, ?measure⟩
            case rel => exact ⟨3, p, by omega, rfl, rfl, by rw [isTK_s HT.out (hp.out : isF (d.f 2) = p)]; rfl, K.out, hB'⟩
            case measure => simp [intOf]
        · cases b
          · go_wp2_with fail
            first | go_roundw | refine ⟨?rel, ?measure⟩
            case rel => exact ⟨4, false, by omega, rfl, rfl, by rw [isTK, HT.out]; rfl, H0.out, hb⟩
            case measure => simp [intOf]
          · obtain ⟨p, hp⟩ : ∃ p, Hid (isF d.f3 = p) := ⟨_, rfl⟩
            go_wp2_with fail
            refine (refF_at hp.out _ s3).mono ?_
            rintro x w2 ⟨rfl, hb2⟩
            have K := hid (var_on hb2 H0.out l0)
            have hB' := below_on hb hb2
            clear hb2 hb
            go_wp2_with fail
            first | go_roundw | refine ⟨?rel, ?measure⟩
            case rel => exact ⟨4, p, by omega, rfl, rfl, by rw [isTK_s HT.out (hp.out : isF (d.f 3) = p)]; rfl, K.out, hB'⟩
            case measure => simp [intOf]
        · go_wp2_with fail
          go_ret; exact ⟨congrArg (fun x => Ending.returned (.bool x)) (HT.out.symm), hb⟩
    · have h2 : d.id < 0 := by omega
      clear hA h1
      go_enter Tryz.func51, Tryz.ntmps51
      go_wp2_with fail
      go_loopw [3, 4] (fun ok i wr => ∃ (k : Nat) (b : Bool), k ≤ 4 ∧ i = .int .i64 k ∧ ok = .bool b ∧ isTK d k = b ∧ wr.heap[w.heap.size]? = some d.o ∧ Below w.heap.size w wr) (fun _ i _ => 4 - (intOf i).toNat)
      case atStart => exact ⟨0, _, by omega, rfl, rfl, B0.out, K0.out, below1 _ _⟩
      case round =>
        obtain ⟨k, b, hk, rfl, rfl, hT, h0, hb⟩ := hrel
        have c0 := cells_at h0
        have l0 := at_lt h0
        have H0 := hid h0
        have HT := hid hT
        clear h0 hT
        obtain rfl | rfl | rfl | rfl | rfl : k = 0 ∨ k = 1 ∨ k = 2 ∨ k = 3 ∨ k = 4 := by omega
        · cases b
          · go_wp2_with fail
            first | go_roundw | refine ⟨?rel, ?measure⟩
            case rel => exact ⟨1, false, by omega, rfl, rfl, by rw [isTK, HT.out]; rfl, H0.out, hb⟩
            case measure => simp [intOf]
          · obtain ⟨p, hp⟩ : ∃ p, Hid (isF d.f0 = p) := ⟨_, rfl⟩
            go_wp2_with fail
            refine (refF_at hp.out _ s0).mono ?_
            rintro x w2 ⟨rfl, hb2⟩
            have K := hid (var_on hb2 H0.out l0)
            have hB' := below_on hb hb2
            clear hb2 hb
            go_wp2_with fail
            first | go_roundw | refine ⟨?rel, ?measure⟩
            case rel => exact ⟨1, p, by omega, rfl, rfl, by rw [isTK_s HT.out (hp.out : isF (d.f 0) = p)]; rfl, K.out, hB'⟩
            case measure => simp [intOf]
        · cases b
          · go_wp2_with fail
            first | go_roundw | refine ⟨?rel, ?measure⟩
            case rel => exact ⟨2, false, by omega, rfl, rfl, by rw [isTK, HT.out]; rfl, H0.out, hb⟩
            case measure => simp [intOf]
          · obtain ⟨p, hp⟩ : ∃ p, Hid (isF d.f1 = p) := ⟨_, rfl⟩
            go_wp2_with fail
            refine (refF_at hp.out _ s1).mono ?_
            rintro x w2 ⟨rfl, hb2⟩
            have K := hid (var_on hb2 H0.out l0)
            have hB' := below_on hb hb2
            clear hb2 hb
            go_wp2_with fail
            first | go_roundw | refine ⟨?rel, ?measure⟩
            case rel => exact ⟨2, p, by omega, rfl, rfl, by rw [isTK_s HT.out (hp.out : isF (d.f 1) = p)]; rfl, K.out, hB'⟩
            case measure => simp [intOf]
        · cases b
          · go_wp2_with fail
            first | go_roundw | refine ⟨?rel, ?measure⟩
            case rel => exact ⟨3, false, by omega, rfl, rfl, by rw [isTK, HT.out]; rfl, H0.out, hb⟩
            case measure => simp [intOf]
          · obtain ⟨p, hp⟩ : ∃ p, Hid (isF d.f2 = p) := ⟨_, rfl⟩
            go_wp2_with fail
            refine (refF_at hp.out _ s2).mono ?_
            rintro x w2 ⟨rfl, hb2⟩
            have K := hid (var_on hb2 H0.out l0)
            have hB' := below_on hb hb2
            clear hb2 hb
            go_wp2_with fail
            first | go_roundw | refine ⟨?rel, ?measure⟩
            case rel => exact ⟨3, p, by omega, rfl, rfl, by rw [isTK_s HT.out (hp.out : isF (d.f 2) = p)]; rfl, K.out, hB'⟩
            case measure => simp [intOf]
        · cases b
          · go_wp2_with fail
            first | go_roundw | refine ⟨?rel, ?measure⟩
            case rel => exact ⟨4, false, by omega, rfl, rfl, by rw [isTK, HT.out]; rfl, H0.out, hb⟩
            case measure => simp [intOf]
          · obtain ⟨p, hp⟩ : ∃ p, Hid (isF d.f3 = p) := ⟨_, rfl⟩
            go_wp2_with fail
            refine (refF_at hp.out _ s3).mono ?_
            rintro x w2 ⟨rfl, hb2⟩
            have K := hid (var_on hb2 H0.out l0)
            have hB' := below_on hb hb2
            clear hb2 hb
            go_wp2_with fail
            first | go_roundw | refine ⟨?rel, ?measure⟩
            case rel => exact ⟨4, p, by omega, rfl, rfl, by rw [isTK_s HT.out (hp.out : isF (d.f 3) = p)]; rfl, K.out, hB'⟩
            case measure => simp [intOf]
        · go_wp2_with fail
          go_ret; exact ⟨congrArg (fun x => Ending.returned (.bool x)) (HT.out.symm), hb⟩
end
section
open Go.RowKit
set_option linter.unusedVariables false
def msk (n0 n1 n2 n3 n4 : Bool) : Nat := n0.toNat + 2 * n1.toNat + 4 * n2.toNat + 8 * n3.toNat + 16 * n4.toNat
theorem msk_bits : ∀ n0 n1 n2 n3 n4 : Bool, (msk n0 n1 n2 n3 n4).testBit 0 = n0 ∧ (msk n0 n1 n2 n3 n4).testBit 1 = n1 ∧ (msk n0 n1 n2 n3 n4).testBit 2 = n2 ∧ (msk n0 n1 n2 n3 n4).testBit 3 = n3 ∧ (msk n0 n1 n2 n3 n4).testBit 4 = n4 := by decide +kernel
theorem msk_le : ∀ n0 n1 n2 n3 n4 : Bool, msk n0 n1 n2 n3 n4 ≤ 31 := by decide +kernel
theorem msk_zero : ∀ n0 n1 n2 n3 n4 : Bool, msk n0 n1 n2 n3 n4 = 0 → n0 = false ∧ n1 = false ∧ n2 = false ∧ n3 = false ∧ n4 = false := by decide +kernel
theorem msk_or : ∀ n0 n1 n2 n3 n4 m0 m1 m2 m3 m4 : Bool, msk n0 n1 n2 n3 n4 ||| msk m0 m1 m2 m3 m4 = msk (n0 || m0) (n1 || m1) (n2 || m2) (n3 || m3) (n4 || m4) := by decide +kernel
theorem msk_or1 : ∀ n0 : Bool, msk n0 false false false false ||| 2 = msk n0 true false false false := by decide
theorem msk_or2 : ∀ n0 n1 : Bool, msk n0 n1 false false false ||| 4 = msk n0 n1 true false false := by decide
theorem msk_or3 : ∀ n0 n1 n2 : Bool, msk n0 n1 n2 false false ||| 8 = msk n0 n1 n2 true false := by decide
theorem msk_or4 : ∀ n0 n1 n2 n3 : Bool, msk n0 n1 n2 n3 false ||| 16 = msk n0 n1 n2 n3 true := by decide
def ne0 (a b : Th) : Bool := !pEq a.x a.y b.x b.y
def neF (f g : Fl) : Bool := !eqF f g
theorem dK0 (a b : Th) : dK a b 0 = ⟨b.id, msk (ne0 a b) false false false false, bif ne0 a b then b.x else 0, bif ne0 a b then b.y else 0, zF, zF, zF, zF⟩ := by
  unfold dK ne0
  cases pEq a.x a.y b.x b.y <;> rfl
theorem dK1 (a b : Th) : dK a b 1 = ⟨b.id, msk (ne0 a b) (neF a.f0 b.f0) false false false, bif ne0 a b then b.x else 0, bif ne0 a b then b.y else 0, bif neF a.f0 b.f0 then b.f0 else zF, zF, zF, zF⟩ := by
  rw [dK, dK0]
  unfold neF
  by_cases h : a.f0 = b.f0
  · rw [if_pos (show eqF (a.f 0) (b.f 0) = true from eqF_iff.2 h), eqF_iff.2 h]; rfl
  · rw [if_neg (show ¬ eqF (a.f 0) (b.f 0) = true from fun e => h (eqF_iff.1 e)), eqF_no.2 h]; simp only [Dl.set]; rw [show (2 : Nat) ^ (0 + 1) = 2 from rfl, msk_or1]; simp [Th.f]
theorem dK2 (a b : Th) : dK a b 2 = ⟨b.id, msk (ne0 a b) (neF a.f0 b.f0) (neF a.f1 b.f1) false false, bif ne0 a b then b.x else 0, bif ne0 a b then b.y else 0, bif neF a.f0 b.f0 then b.f0 else zF, bif neF a.f1 b.f1 then b.f1 else zF, zF, zF⟩ := by
  rw [dK, dK1]
  obtain ⟨c, hc⟩ : ∃ c, neF a.f0 b.f0 = c := ⟨_, rfl⟩
  rw [hc]
  unfold neF
  by_cases h : a.f1 = b.f1
  · rw [if_pos (show eqF (a.f 1) (b.f 1) = true from eqF_iff.2 h), eqF_iff.2 h]; rfl
  · rw [if_neg (show ¬ eqF (a.f 1) (b.f 1) = true from fun e => h (eqF_iff.1 e)), eqF_no.2 h]; simp only [Dl.set]; rw [show (2 : Nat) ^ (1 + 1) = 4 from rfl, msk_or2]; simp [Th.f]
theorem dK3 (a b : Th) : dK a b 3 = ⟨b.id, msk (ne0 a b) (neF a.f0 b.f0) (neF a.f1 b.f1) (neF a.f2 b.f2) false, bif ne0 a b then b.x else 0, bif ne0 a b then b.y else 0, bif neF a.f0 b.f0 then b.f0 else zF, bif neF a.f1 b.f1 then b.f1 else zF, bif neF a.f2 b.f2 then b.f2 else zF, zF⟩ := by
  rw [dK, dK2]
  obtain ⟨c, hc⟩ : ∃ c, neF a.f0 b.f0 = c := ⟨_, rfl⟩
  obtain ⟨c', hc'⟩ : ∃ c, neF a.f1 b.f1 = c := ⟨_, rfl⟩
  rw [hc, hc']
  unfold neF
  by_cases h : a.f2 = b.f2
  · rw [if_pos (show eqF (a.f 2) (b.f 2) = true from eqF_iff.2 h), eqF_iff.2 h]; rfl
  · rw [if_neg (show ¬ eqF (a.f 2) (b.f 2) = true from fun e => h (eqF_iff.1 e)), eqF_no.2 h]; simp only [Dl.set]; rw [show (2 : Nat) ^ (2 + 1) = 8 from rfl, msk_or3]; simp [Th.f]
theorem dK4 (a b : Th) : dK a b 4 = ⟨b.id, msk (ne0 a b) (neF a.f0 b.f0) (neF a.f1 b.f1) (neF a.f2 b.f2) (neF a.f3 b.f3), bif ne0 a b then b.x else 0, bif ne0 a b then b.y else 0, bif neF a.f0 b.f0 then b.f0 else zF, bif neF a.f1 b.f1 then b.f1 else zF, bif neF a.f2 b.f2 then b.f2 else zF, bif neF a.f3 b.f3 then b.f3 else zF⟩ := by
  rw [dK, dK3]
  obtain ⟨c, hc⟩ : ∃ c, neF a.f0 b.f0 = c := ⟨_, rfl⟩
  obtain ⟨c', hc'⟩ : ∃ c, neF a.f1 b.f1 = c := ⟨_, rfl⟩
  obtain ⟨c2, hc2⟩ : ∃ c, neF a.f2 b.f2 = c := ⟨_, rfl⟩
  rw [hc, hc', hc2]
  unfold neF
  by_cases h : a.f3 = b.f3
  · rw [if_pos (show eqF (a.f 3) (b.f 3) = true from eqF_iff.2 h), eqF_iff.2 h]; rfl
  · rw [if_neg (show ¬ eqF (a.f 3) (b.f 3) = true from fun e => h (eqF_iff.1 e)), eqF_no.2 h]; simp only [Dl.set]; rw [show (2 : Nat) ^ (3 + 1) = 16 from rfl, msk_or4]; simp [Th.f]
theorem apply5 (t : Th) (d : Dl) : apply t d = ⟨t.id, bif d.m.testBit 0 then d.x else t.x, bif d.m.testBit 0 then d.y else t.y, bif d.m.testBit 1 then d.f0 else t.f0, bif d.m.testBit 2 then d.f1 else t.f1, bif d.m.testBit 3 then d.f2 else t.f2, bif d.m.testBit 4 then d.f3 else t.f3⟩ := by
  unfold apply aK aK aK aK aK
  cases d.m.testBit 0 <;> cases d.m.testBit 1 <;> cases d.m.testBit 2 <;> cases d.m.testBit 3 <;> cases d.m.testBit 4 <;> rfl
theorem apply_dK (a b : Th) (h : a.id = b.id) : apply a (dK a b 4) = b := by
  obtain ⟨m0, m1, m2, m3, m4⟩ := msk_bits (ne0 a b) (neF a.f0 b.f0) (neF a.f1 b.f1) (neF a.f2 b.f2) (neF a.f3 b.f3)
  rw [apply5, dK4]
  simp only
  rw [m0, m1, m2, m3, m4]
  obtain ⟨bi, bx, bY, b0, b1, b2, b3⟩ := b
  simp only [Th.mk.injEq]
  refine ⟨h, ?_, ?_, ?_, ?_, ?_, ?_⟩
  · cases e : ne0 a ⟨bi, bx, bY, b0, b1, b2, b3⟩ <;> simp [ne0, pEq] at e ⊢; exact e.1
  · cases e : ne0 a ⟨bi, bx, bY, b0, b1, b2, b3⟩ <;> simp [ne0, pEq] at e ⊢; exact e.2
  · cases e : neF a.f0 b0 <;> simp [neF, eqF_iff] at e ⊢; exact e
  · cases e : neF a.f1 b1 <;> simp [neF, eqF_iff] at e ⊢; exact e
  · cases e : neF a.f2 b2 <;> simp [neF, eqF_iff] at e ⊢; exact e
  · cases e : neF a.f3 b3 <;> simp [neF, eqF_iff] at e ⊢; exact e
theorem dK_m0 {a b : Th} (h : a.id = b.id) (hm : (dK a b 4).m = 0) : a = b := by
  rw [dK4] at hm
  obtain ⟨m0, m1, m2, m3, m4⟩ := msk_zero _ _ _ _ _ hm
  obtain ⟨ai, ax, ay, a0, a1, a2, a3⟩ := a
  obtain ⟨bi, bx, bY, b0, b1, b2, b3⟩ := b
  simp [ne0, pEq, neF, eqF_iff] at m0 m1 m2 m3 m4 h
  simp [m0, m1, m2, m3, m4, h]
theorem diff_no {a b : Th} {x : Dl} (h : a.id = b.id) (hd : diff a b = (x, false)) : a = b := by
  unfold diff at hd
  split at hd
  · exact dK_m0 h (by assumption)
  · simp at hd
theorem diff_yes {a b : Th} {x : Dl} (hd : diff a b = (x, true)) : x = dK a b 4 ∧ ¬ x.m = 0 := by
  unfold diff at hd
  split at hd
  · simp at hd
  · simp only [Prod.mk.injEq, and_true] at hd
    subst hd
    exact ⟨rfl, by assumption⟩
theorem diff_apply {a b : Th} {x : Dl} (h : a.id = b.id) (hd : diff a b = (x, true)) : apply a x = b := by
  rw [(diff_yes hd).1]; exact apply_dK a b h
theorem diff_m {a b : Th} {x : Dl} {q : Bool} (hd : diff a b = (x, q)) : x.m ≤ 31 := by
  unfold diff at hd
  split at hd
  · simp only [Prod.mk.injEq] at hd; obtain ⟨rfl, _⟩ := hd; decide
  · simp only [Prod.mk.injEq] at hd; obtain ⟨rfl, _⟩ := hd; rw [dK4]; exact msk_le _ _ _ _ _
theorem chain_mask {a b c : Th} {x y z : Dl} (h1 : diff a b = (x, true)) (h2 : diff b c = (y, true)) (h3 : diff a c = (z, true)) : x.m ||| y.m ||| z.m = x.m ||| y.m := by
  rw [(diff_yes h1).1, (diff_yes h2).1, (diff_yes h3).1, dK4, dK4, dK4]
  simp only
  rw [msk_or, msk_or]
  have e : ∀ p q r : Bool, (r = true → p = true ∨ q = true) → (p || q || r) = (p || q) := by decide
  have f : ∀ f g h : Fl, neF f h = true → neF f g = true ∨ neF g h = true := fun f g h => by
    simp only [neF, Bool.not_eq_true', eqF_no]
    intro h1
    by_cases h2 : f = g
    · right; rw [← h2]; exact h1
    · left; exact h2
  rw [e _ _ _ (f a.f0 b.f0 c.f0), e _ _ _ (f a.f1 b.f1 c.f1), e _ _ _ (f a.f2 b.f2 c.f2), e _ _ _ (f a.f3 b.f3 c.f3)]
  rw [e]
  intro h
  simp [ne0, pEq] at h ⊢
  omega
end
section
open Go.RowKit
set_option linter.unusedVariables false
theorem pair_back (a b : Nat) (ha : a ≤ 1000000) (hb : b ≤ 1000000) (r : List UInt8) : pairR (put a ++ (put b ++ r)) = (a, b, (put a).length + (put b).length, 0) := by
  have h1 := get_put a (by omega) (put b ++ r)
  refine pairR_3 h1 ?_
  rw [List.drop_left]
  exact get_put b (by omega) r
theorem field_back (f : Fl) (hf : isF f = true) (hn : -9223372036854775808 ≤ f.n ∧ f.n ≤ 9223372036854775807) (r : List UInt8) : fieldR (told f ++ r) = (f, (told f).length, 0) := by
  obtain ⟨n, s⟩ := f
  simp only [isF, Bool.and_eq_true, decide_eq_true_eq, Bool.or_eq_true, beq_iff_eq] at hf
  obtain ⟨h1, h2⟩ := hf
  have h2 : s.data.toList.length ≤ 12 := h2
  by_cases he : s.data.toList = []
  · have hs : s = ⟨#[]⟩ := ByteArray.ext (Array.toList_inj.mp he)
    subst hs
    have ht := texts_text [] (put (zig n) ++ r) 12 (by simp) (by simp)
    have hz := zig_le n hn.1 hn.2
    unfold told
    rw [if_pos rfl, List.append_assoc]
    have e := fieldR_4 (l := text [] ++ (put (zig n) ++ r)) ht (by
      rw [show (put (List.length ([] : List UInt8))).length + List.length ([] : List UInt8) = (text []).length by simp [text], List.drop_left]
      exact get_put (zig n) (by omega) r)
    rw [zag_zig] at e
    refine e.trans ?_
    simp [text]
  · have h1' : n = 0 := by
      rcases h1 with h | h
      · exact h
      · rw [ByteArray.toList_eq] at h; exact absurd h he
    subst h1'
    have ht := texts_text s.data.toList r 12 (by omega) (by omega)
    unfold told
    rw [if_neg he, List.append_nil]
    refine (fieldR_2 ht he).trans ?_
    simp [text]
def tailK (d : Dl) (r : List UInt8) : Nat → List UInt8
  | 0 => r
  | k + 1 => (if d.m.testBit (4 - k) then told (d.f (3 - k)) else []) ++ tailK d r k
theorem bytes_split (d : Dl) (r : List UInt8) : bytesK d 4 ++ r = bytesK d 0 ++ tailK d r 4 ∧ bytesK d 4 ++ r = bytesK d 1 ++ tailK d r 3 ∧ bytesK d 4 ++ r = bytesK d 2 ++ tailK d r 2 ∧ bytesK d 4 ++ r = bytesK d 3 ++ tailK d r 1 := by
  refine ⟨?_, ?_, ?_, ?_⟩ <;> simp [bytesK, tailK, List.append_assoc]
def cutD (d : Dl) (k : Nat) : Dl := ⟨d.id, d.m, d.x, d.y, if 0 < k then d.f0 else zF, if 1 < k then d.f1 else zF, if 2 < k then d.f2 else zF, if 3 < k then d.f3 else zF⟩
theorem step_back {d : Dl} {l R : List UInt8} {k : Nat} (hk : k < 4) (h : readS l (k + 1) = (cutD d k, (bytesK d k).length, 0)) (hl : l = bytesK d k ++ ((if d.m.testBit (k + 1) then told (d.f k) else []) ++ R)) (hF : isF (d.f k) = true) (hn : -9223372036854775808 ≤ (d.f k).n ∧ (d.f k).n ≤ 9223372036854775807) (hz : d.m.testBit (k + 1) = true ∨ d.f k = zF) : readS l (k + 1 + 1) = (cutD d (k + 1), (bytesK d (k + 1)).length, 0) := by
  cases hr : d.m.testBit (k + 1)
  · have hz' : d.f k = zF := by
      rcases hz with h | h
      · rw [hr] at h; cases h
      · exact h
    rw [bytesK_same rfl hr]
    have e : cutD d (k + 1) = cutD d k := by
      obtain rfl | rfl | rfl | rfl : k = 0 ∨ k = 1 ∨ k = 2 ∨ k = 3 := by omega
      all_goals simp [cutD, Dl.f] at hz' ⊢ <;> exact hz'
    rw [e]
    exact readS_skip h hr
  · rw [hr] at hl
    have e : cutD d (k + 1) = (cutD d k).set k (d.f k) := by
      obtain rfl | rfl | rfl | rfl : k = 0 ∨ k = 1 ∨ k = 2 ∨ k = 3 := by omega
      all_goals simp [cutD, Dl.f, Dl.set]
    have hp : fieldR (l.drop (bytesK d k).length) = (d.f k, (told (d.f k)).length, 0) := by
      rw [hl, List.drop_left]
      simp only [if_true]
      exact field_back (d.f k) hF hn R
    have := readS_fl (b := k) h hr hp
    rw [this, e, bytesK_next rfl hr, List.length_append]
theorem read_back (d : Dl) (hD : isD d = true) (hn : ∀ k, -9223372036854775808 ≤ (d.f k).n ∧ (d.f k).n ≤ 9223372036854775807) (r : List UInt8) : read (bytesK d 4 ++ r) = (d, (bytesK d 4).length, 0) := by
  obtain ⟨d1, d2, d3, d4, d5, d6, d7, d8, d9, d10⟩ := isD_small hD
  obtain ⟨s0, s1, s2, s3⟩ := bytes_split d r
  have hD' := hD
  unfold isD at hD'
  simp only [Bool.and_eq_true, Bool.or_eq_true, List.all_eq_true, List.mem_range, decide_eq_true_eq, eqF_iff] at hD'
  obtain ⟨⟨_, hp⟩, hz⟩ := hD'
  obtain ⟨L, hL⟩ : ∃ L, bytesK d 4 ++ r = L := ⟨_, rfl⟩
  rw [hL] at s0 s1 s2 s3 ⊢
  have i1 : (d.id.toNat : Int) = d.id := by omega
  have x1 : (d.x.toNat : Int) = d.x := by omega
  have y1 : (d.y.toNat : Int) = d.y := by omega
  have h0 : readS L 1 = (cutD d 0, (bytesK d 0).length, 0) := by
    cases hr : d.m.testBit 0
    · have e : L = put d.id.toNat ++ (put d.m ++ tailK d r 4) := by rw [s0, bytesK, hr]; simp [List.append_assoc]
      have hh : readS L 0 = (⟨(d.id.toNat : Int), d.m, 0, 0, zF, zF, zF, zF⟩, (put d.id.toNat).length + (put d.m).length, 0) := by
        have := headR_3 (l := L) (by rw [e]; exact pair_back d.id.toNat d.m (by omega) (by omega) _) (by omega) (by omega) (by omega)
        exact this
      have := readS_skip hh hr
      rw [this]
      rcases hp with hp | hp
      · rw [hr] at hp; cases hp
      · simp [pEq] at hp
        simp [cutD, i1, hp, bytesK, hr]
    · have e : L = put d.id.toNat ++ (put d.m ++ ((put d.x.toNat ++ put d.y.toNat) ++ tailK d r 4)) := by rw [s0, bytesK, hr]; simp [List.append_assoc]
      have hh : readS L 0 = (⟨(d.id.toNat : Int), d.m, 0, 0, zF, zF, zF, zF⟩, (put d.id.toNat).length + (put d.m).length, 0) := by
        have := headR_3 (l := L) (by rw [e]; exact pair_back d.id.toNat d.m (by omega) (by omega) _) (by omega) (by omega) (by omega)
        exact this
      have hq : pairR (L.drop ((put d.id.toNat).length + (put d.m).length)) = (d.x.toNat, d.y.toNat, (put d.x.toNat).length + (put d.y.toNat).length, 0) := by
        rw [e, ← List.append_assoc, show (put d.id.toNat).length + (put d.m).length = (put d.id.toNat ++ put d.m).length by rw [List.length_append], List.drop_left, List.append_assoc]
        exact pair_back d.x.toNat d.y.toNat (by omega) (by omega) _
      have := readS_pt hh hr hq
      rw [this]
      have m1 : ((min d.x.toNat 64 : Nat) : Int) = d.x := by omega
      have m2 : ((min d.y.toNat 64 : Nat) : Int) = d.y := by omega
      rw [m1, m2]
      simp [cutD, i1, bytesK, hr]
      omega
  have z : ∀ k, k < 4 → d.m.testBit (k + 1) = true ∨ d.f k = zF := fun k hk => (hz k hk).2
  have h1 := step_back (k := 0) (by omega) h0 (by rw [s0]; rfl) (d10 0) (hn 0) (z 0 (by omega))
  have h2 := step_back (k := 1) (by omega) h1 (by rw [s1]; rfl) (d10 1) (hn 1) (z 1 (by omega))
  have h3 := step_back (k := 2) (by omega) h2 (by rw [s2]; rfl) (d10 2) (hn 2) (z 2 (by omega))
  have h4 := step_back (k := 3) (by omega) h3 (by rw [s3]; rfl) (d10 3) (hn 3) (z 3 (by omega))
  exact read_good (show readS L 5 = (d, (bytesK d 4).length, 0) from h4) hD
end
end Go.Proofs.YtpedngbjpbeanaaGreatDoor
