/- Contracts of Is of the packages fields and thing, of the statements' fewThing and fewThings, of the reference's Is and SameAll. No conditions beyond those typed. -/
import Derived.Test.YtildhbkcpehobaaGreatDoorTbP
import Derived.Test.YtildhbkcpehobaaGreatDoorQdT
namespace Go.Proofs.YtildhbkcpehobaaGreatDoor
open Go.RowKit
set_option linter.unusedVariables false
theorem fields_isField (w : World) (f : Fl) (hs : f.s.size ≤ maxLen) : Calls Tryz.prog 44 #[f.v] w fun e w' => e = .returned (.bool (isF f)) ∧ Below w.heap.size w w' := by
  go_enter Tryz.func44, Tryz.ntmps44
  go_wp2 <;> (go_ret; exact ⟨by simp_all [isF] <;> omega, below1 _ _⟩)
theorem ref_isField (w : World) (f : Fl) (hs : f.s.size ≤ maxLen) : Calls Tryz.prog 31 #[f.v] w fun e w' => e = .returned (.bool (isF f)) ∧ Below w.heap.size w w' := by
  go_enter Tryz.func31, Tryz.ntmps31
  go_wp2 <;> (go_ret; exact ⟨by simp_all [isF] <;> omega, below1 _ _⟩)
theorem few_field (w : World) (f : Fl) (hs : f.s.size ≤ maxLen) : Calls Tryz.prog 24 #[f.v] w fun e w' => e = .returned (.bool (decide (f.s.size ≤ 40))) ∧ Below w.heap.size w w' := by
  go_enter Tryz.func24, Tryz.ntmps24
  go_wp2 <;> (go_ret; exact ⟨by simp <;> omega, below1 _ _⟩)
theorem isF_at {f : Fl} {r : Bool} (h : isF f = r) (w : World) (hs : f.s.size ≤ maxLen) : Calls Tryz.prog 44 #[f.v] w fun e w' => e = .returned (.bool r) ∧ Below w.heap.size w w' := by
  rw [← h]; exact fields_isField w f hs
theorem refF_at {f : Fl} {r : Bool} (h : isF f = r) (w : World) (hs : f.s.size ≤ maxLen) : Calls Tryz.prog 31 #[f.v] w fun e w' => e = .returned (.bool r) ∧ Below w.heap.size w w' := by
  rw [← h]; exact ref_isField w f hs
theorem refOn_at {x y : Int} {r : Bool} (h : onB x y = r) (w : World) : Calls Tryz.prog 30 #[pt x y] w fun e w' => e = .returned (.bool r) ∧ Below w.heap.size w w' := by
  rw [← h]; exact ref_on w x y
theorem few_at {f : Fl} {r : Bool} (h : decide (f.s.size ≤ 40) = r) (w : World) (hs : f.s.size ≤ maxLen) : Calls Tryz.prog 24 #[f.v] w fun e w' => e = .returned (.bool r) ∧ Below w.heap.size w w' := by
  rw [← h]; exact few_field w f hs
theorem fewF_at {f : Fl} {r : Bool} (h : fewF f = r) (w : World) (hs : f.s.size ≤ maxLen) : Calls Tryz.prog 24 #[f.v] w fun e w' => e = .returned (.bool r) ∧ Below w.heap.size w w' := few_at h w hs
set_option maxHeartbeats 1000000 in
theorem few_thing (w : World) (d : Th) (hi : inT d) : Calls Tryz.prog 6 #[d.v] w fun e w' => e = .returned (.bool (few4 d.f)) ∧ Below w.heap.size w w' := by
  obtain ⟨i0, i1, i2, i3⟩ := hi
  have s0 := i0.1
  have s1 := i1.1
  have s2 := i2.1
  have s3 := i3.1
  clear i0 i1 i2 i3
  go_enter Tryz.func6, Tryz.ntmps6
  go_wp2_with fail
  go_loopw [3] (fun i wr => ∃ k : Nat, k ≤ 4 ∧ i = .int .i64 k ∧ wr.heap[w.heap.size]? = some d.o ∧ (∀ j, j < k → fewF (d.f j) = true) ∧ Below w.heap.size w wr) (fun i _ => 4 - (intOf i).toNat)
  case atStart => exact ⟨0, by omega, rfl, new_at _ _ _ rfl, fun j hj => by omega, below1 _ _⟩
  case round =>
    obtain ⟨k, hk, rfl, h0, hok, hb⟩ := hrel
    have c0 := cells_at h0
    have l0 := at_lt h0
    have H0 := hid h0
    have HO := hid hok
    clear h0 hok
    obtain rfl | rfl | rfl | rfl | rfl : k = 0 ∨ k = 1 ∨ k = 2 ∨ k = 3 ∨ k = 4 := by omega
    · obtain ⟨p, hp⟩ : ∃ p, Hid (fewF d.f0 = p) := ⟨_, rfl⟩
      go_wp2_with fail
      refine (fewF_at hp.out _ s0).mono ?_
      rintro x w2 ⟨rfl, hb2⟩
      have K := hid (var_on hb2 H0.out l0)
      have hB := below_on hb hb2
      clear hb2 hb
      cases p
      · go_wp2_with fail
        go_ret; exact ⟨congrArg (fun x => Ending.returned (.bool x)) ((few4_no (k := 0) (by omega) hp.out).symm), hB⟩
      · go_wp2_with fail
        first | go_roundw | refine ⟨?rel, ?measure⟩
        case rel => exact ⟨1, by omega, rfl, K.out, few_step HO.out hp.out, hB⟩
        case measure => simp [intOf]
    · obtain ⟨p, hp⟩ : ∃ p, Hid (fewF d.f1 = p) := ⟨_, rfl⟩
      go_wp2_with fail
      refine (fewF_at hp.out _ s1).mono ?_
      rintro x w2 ⟨rfl, hb2⟩
      have K := hid (var_on hb2 H0.out l0)
      have hB := below_on hb hb2
      clear hb2 hb
      cases p
      · go_wp2_with fail
        go_ret; exact ⟨congrArg (fun x => Ending.returned (.bool x)) ((few4_no (k := 1) (by omega) hp.out).symm), hB⟩
      · go_wp2_with fail
        first | go_roundw | refine ⟨?rel, ?measure⟩
        case rel => exact ⟨2, by omega, rfl, K.out, few_step HO.out hp.out, hB⟩
        case measure => simp [intOf]
    · obtain ⟨p, hp⟩ : ∃ p, Hid (fewF d.f2 = p) := ⟨_, rfl⟩
      go_wp2_with fail
      refine (fewF_at hp.out _ s2).mono ?_
      rintro x w2 ⟨rfl, hb2⟩
      have K := hid (var_on hb2 H0.out l0)
      have hB := below_on hb hb2
      clear hb2 hb
      cases p
      · go_wp2_with fail
        go_ret; exact ⟨congrArg (fun x => Ending.returned (.bool x)) ((few4_no (k := 2) (by omega) hp.out).symm), hB⟩
      · go_wp2_with fail
        first | go_roundw | refine ⟨?rel, ?measure⟩
        case rel => exact ⟨3, by omega, rfl, K.out, few_step HO.out hp.out, hB⟩
        case measure => simp [intOf]
    · obtain ⟨p, hp⟩ : ∃ p, Hid (fewF d.f3 = p) := ⟨_, rfl⟩
      go_wp2_with fail
      refine (fewF_at hp.out _ s3).mono ?_
      rintro x w2 ⟨rfl, hb2⟩
      have K := hid (var_on hb2 H0.out l0)
      have hB := below_on hb hb2
      clear hb2 hb
      cases p
      · go_wp2_with fail
        go_ret; exact ⟨congrArg (fun x => Ending.returned (.bool x)) ((few4_no (k := 3) (by omega) hp.out).symm), hB⟩
      · go_wp2_with fail
        first | go_roundw | refine ⟨?rel, ?measure⟩
        case rel => exact ⟨4, by omega, rfl, K.out, few_step HO.out hp.out, hB⟩
        case measure => simp [intOf]
    · go_wp2_with fail
      go_ret; exact ⟨congrArg (fun x => Ending.returned (.bool x)) ((few4_yes HO.out).symm), hb⟩
set_option maxHeartbeats 2000000 in
theorem ref_isT (w : World) (d : Th) (hi : inT d) : Calls Tryz.prog 10 #[d.v] w fun e w' => e = .returned (.bool (isTK d 4)) ∧ Below w.heap.size w w' := by
  obtain ⟨i0, i1, i2, i3⟩ := hi
  have s0 := i0.1
  have s1 := i1.1
  have s2 := i2.1
  have s3 := i3.1
  clear i0 i1 i2 i3
  have K0 : Hid ((w.alloc d.o).heap[w.heap.size]? = some d.o) := new_at _ _ _ rfl
  obtain ⟨o, ho⟩ : ∃ o, Hid (onB d.x d.y = o) := ⟨_, rfl⟩
  by_cases hA : 0 ≤ d.id ∧ d.id ≤ 1000000
  · obtain ⟨a1, a2⟩ := hA
    have B0 : Hid (isTK d 0 = o) := by show isTK d 0 = o; rw [isTK, ho.out]; simp [a1, a2]
    go_enter Tryz.func10, Tryz.ntmps10
    go_wp2_with fail
    refine (refOn_at ho.out _).mono ?_
    rintro x w1 ⟨rfl, hb1⟩
    have K1 := hid (var_on hb1 K0.out (at_lt K0.out))
    have hB := below_on (below1 w d.o) hb1
    clear hb1 K0
    go_wp2_with fail
    go_loopw [3, 4] (fun ok i wr => ∃ (k : Nat) (b : Bool), k ≤ 4 ∧ i = .int .i64 k ∧ ok = .bool b ∧ isTK d k = b ∧ wr.heap[w.heap.size]? = some d.o ∧ Below w.heap.size w wr) (fun _ i _ => 4 - (intOf i).toNat)
    case atStart => exact ⟨0, _, by omega, rfl, rfl, B0.out, K1.out, hB⟩
    case round =>
      obtain ⟨k, b, hk, rfl, rfl, hT, h0, hb⟩ := hrel
      have c0 := cells_at h0
      have l0 := at_lt h0
      have H0 := hid h0
      have HT := hid hT
      clear h0 hT
      obtain rfl | rfl | rfl | rfl | rfl : k = 0 ∨ k = 1 ∨ k = 2 ∨ k = 3 ∨ k = 4 := by omega
      · cases b
        · go_wp2_with fail
          first | go_roundw | refine ⟨?rel, ?measure⟩
          case rel => exact ⟨1, false, by omega, rfl, rfl, by rw [isTK, HT.out]; rfl, H0.out, hb⟩
          case measure => simp [intOf]
        · obtain ⟨p, hp⟩ : ∃ p, Hid (isF d.f0 = p) := ⟨_, rfl⟩
          go_wp2_with fail
          refine (refF_at hp.out _ s0).mono ?_
          rintro x w2 ⟨rfl, hb2⟩
          have K := hid (var_on hb2 H0.out l0)
          have hB' := below_on hb hb2
          clear hb2 hb
          go_wp2_with fail
          first | go_roundw | refine ⟨?rel, ?measure⟩
          case rel => exact ⟨1, p, by omega, rfl, rfl, by rw [isTK_s HT.out (hp.out : isF (d.f 0) = p)]; rfl, K.out, hB'⟩
          case measure => simp [intOf]
      · cases b
        · go_wp2_with fail
          first | go_roundw | refine ⟨?rel, ?measure⟩
          case rel => exact ⟨2, false, by omega, rfl, rfl, by rw [isTK, HT.out]; rfl, H0.out, hb⟩
          case measure => simp [intOf]
        · obtain ⟨p, hp⟩ : ∃ p, Hid (isF d.f1 = p) := ⟨_, rfl⟩
          go_wp2_with fail
          refine (refF_at hp.out _ s1).mono ?_
          rintro x w2 ⟨rfl, hb2⟩
          have K := hid (var_on hb2 H0.out l0)
          have hB' := below_on hb hb2
          clear hb2 hb
          go_wp2_with fail
          first | go_roundw | refine ⟨?rel, ?measure⟩
          case rel => exact ⟨2, p, by omega, rfl, rfl, by rw [isTK_s HT.out (hp.out : isF (d.f 1) = p)]; rfl, K.out, hB'⟩
          case measure => simp [intOf]
      · cases b
        · go_wp2_with fail
          first | go_roundw | refine ⟨?rel, ?measure⟩
          case rel => exact ⟨3, false, by omega, rfl, rfl, by rw [isTK, HT.out]; rfl, H0.out, hb⟩
          case measure => simp [intOf]
        · obtain ⟨p, hp⟩ : ∃ p, Hid (isF d.f2 = p) := ⟨_, rfl⟩
          go_wp2_with fail
          refine (refF_at hp.out _ s2).mono ?_
          rintro x w2 ⟨rfl, hb2⟩
          have K := hid (var_on hb2 H0.out l0)
          have hB' := below_on hb hb2
          clear hb2 hb
          go_wp2_with fail
          first | go_roundw | refine ⟨?rel, ?measure⟩
          case rel => exact ⟨3, p, by omega, rfl, rfl, by rw [isTK_s HT.out (hp.out : isF (d.f 2) = p)]; rfl, K.out, hB'⟩
          case measure => simp [intOf]
      · cases b
        · go_wp2_with fail
          first | go_roundw | refine ⟨?rel, ?measure⟩
          case rel => exact ⟨4, false, by omega, rfl, rfl, by rw [isTK, HT.out]; rfl, H0.out, hb⟩
          case measure => simp [intOf]
        · obtain ⟨p, hp⟩ : ∃ p, Hid (isF d.f3 = p) := ⟨_, rfl⟩
          go_wp2_with fail
          refine (refF_at hp.out _ s3).mono ?_
          rintro x w2 ⟨rfl, hb2⟩
          have K := hid (var_on hb2 H0.out l0)
          have hB' := below_on hb hb2
          clear hb2 hb
          go_wp2_with fail
          first | go_roundw | refine ⟨?rel, ?measure⟩
          case rel => exact ⟨4, p, by omega, rfl, rfl, by rw [isTK_s HT.out (hp.out : isF (d.f 3) = p)]; rfl, K.out, hB'⟩
          case measure => simp [intOf]
      · go_wp2_with fail
        go_ret; exact ⟨congrArg (fun x => Ending.returned (.bool x)) (HT.out.symm), hb⟩
  · have B0 : Hid (isTK d 0 = false) := by
      show isTK d 0 = false
      rw [isTK]
      cases h1 : decide (0 ≤ d.id) <;> cases h2 : decide (d.id ≤ 1000000) <;> simp at h1 h2 ⊢
      omega
    by_cases h1 : 0 ≤ d.id
    · have h2 : 1000000 < d.id := by omega
      clear hA
      go_enter Tryz.func10, Tryz.ntmps10
      go_wp2_with fail
      go_loopw [3, 4] (fun ok i wr => ∃ (k : Nat) (b : Bool), k ≤ 4 ∧ i = .int .i64 k ∧ ok = .bool b ∧ isTK d k = b ∧ wr.heap[w.heap.size]? = some d.o ∧ Below w.heap.size w wr) (fun _ i _ => 4 - (intOf i).toNat)
      case atStart => exact ⟨0, _, by omega, rfl, rfl, B0.out, K0.out, below1 _ _⟩
      case round =>
        obtain ⟨k, b, hk, rfl, rfl, hT, h0, hb⟩ := hrel
        have c0 := cells_at h0
        have l0 := at_lt h0
        have H0 := hid h0
        have HT := hid hT
        clear h0 hT
        obtain rfl | rfl | rfl | rfl | rfl : k = 0 ∨ k = 1 ∨ k = 2 ∨ k = 3 ∨ k = 4 := by omega
        · cases b
          · go_wp2_with fail
            first | go_roundw | refine ⟨?rel, ?measure⟩
            case rel => exact ⟨1, false, by omega, rfl, rfl, by rw [isTK, HT.out]; rfl, H0.out, hb⟩
            case measure => simp [intOf]
          · obtain ⟨p, hp⟩ : ∃ p, Hid (isF d.f0 = p) := ⟨_, rfl⟩
            go_wp2_with fail
            refine (refF_at hp.out _ s0).mono ?_
            rintro x w2 ⟨rfl, hb2⟩
            have K := hid (var_on hb2 H0.out l0)
            have hB' := below_on hb hb2
            clear hb2 hb
            go_wp2_with fail
            first | go_roundw | refine ⟨?rel, ?measure⟩
            case rel => exact ⟨1, p, by omega, rfl, rfl, by rw [isTK_s HT.out (hp.out : isF (d.f 0) = p)]; rfl, K.out, hB'⟩
            case measure => simp [intOf]
        · cases b
          · go_wp2_with fail
            first | go_roundw | refine ⟨?rel, ?measure⟩
            case rel => exact ⟨2, false, by omega, rfl, rfl, by rw [isTK, HT.out]; rfl, H0.out, hb⟩
            case measure => simp [intOf]
          · obtain ⟨p, hp⟩ : ∃ p, Hid (isF d.f1 = p) := ⟨_, rfl⟩
            go_wp2_with fail
            refine (refF_at hp.out _ s1).mono ?_
            rintro x w2 ⟨rfl, hb2⟩
            have K := hid (var_on hb2 H0.out l0)
            have hB' := below_on hb hb2
            clear hb2 hb
            go_wp2_with fail
            first | go_roundw | refine ⟨?rel, ?measure⟩
            case rel => exact ⟨2, p, by omega, rfl, rfl, by rw [isTK_s HT.out (hp.out : isF (d.f 1) = p)]; rfl, K.out, hB'⟩
            case measure => simp [intOf]
        · cases b
          · go_wp2_with fail
            first | go_roundw | refine ⟨?rel, ?measure⟩
            case rel => exact ⟨3, false, by omega, rfl, rfl, by rw [isTK, HT.out]; rfl, H0.out, hb⟩
            case measure => simp [intOf]
          · obtain ⟨p, hp⟩ : ∃ p, Hid (isF d.f2 = p) := ⟨_, rfl⟩
            go_wp2_with fail
            refine (refF_at hp.out _ s2).mono ?_
            rintro x w2 ⟨rfl, hb2⟩
            have K := hid (var_on hb2 H0.out l0)
            have hB' := below_on hb hb2
            clear hb2 hb
            go_wp2_with fail
            first | go_roundw | refine ⟨?rel, ?measure⟩
            case rel => exact ⟨3, p, by omega, rfl, rfl, by rw [isTK_s HT.out (hp.out : isF (d.f 2) = p)]; rfl, K.out, hB'⟩
            case measure => simp [intOf]
        · cases b
          · go_wp2_with fail
            first | go_roundw | refine ⟨?rel, ?measure⟩
            case rel => exact ⟨4, false, by omega, rfl, rfl, by rw [isTK, HT.out]; rfl, H0.out, hb⟩
            case measure => simp [intOf]
          · obtain ⟨p, hp⟩ : ∃ p, Hid (isF d.f3 = p) := ⟨_, rfl⟩
            go_wp2_with fail
            refine (refF_at hp.out _ s3).mono ?_
            rintro x w2 ⟨rfl, hb2⟩
            have K := hid (var_on hb2 H0.out l0)
            have hB' := below_on hb hb2
            clear hb2 hb
            go_wp2_with fail
            first | go_roundw | refine ⟨?rel, ?measure⟩
            case rel => exact ⟨4, p, by omega, rfl, rfl, by rw [isTK_s HT.out (hp.out : isF (d.f 3) = p)]; rfl, K.out, hB'⟩
            case measure => simp [intOf]
        · go_wp2_with fail
          go_ret; exact ⟨congrArg (fun x => Ending.returned (.bool x)) (HT.out.symm), hb⟩
    · have h2 : d.id < 0 := by omega
      clear hA h1
      go_enter Tryz.func10, Tryz.ntmps10
      go_wp2_with fail
      go_loopw [3, 4] (fun ok i wr => ∃ (k : Nat) (b : Bool), k ≤ 4 ∧ i = .int .i64 k ∧ ok = .bool b ∧ isTK d k = b ∧ wr.heap[w.heap.size]? = some d.o ∧ Below w.heap.size w wr) (fun _ i _ => 4 - (intOf i).toNat)
      case atStart => exact ⟨0, _, by omega, rfl, rfl, B0.out, K0.out, below1 _ _⟩
      case round =>
        obtain ⟨k, b, hk, rfl, rfl, hT, h0, hb⟩ := hrel
        have c0 := cells_at h0
        have l0 := at_lt h0
        have H0 := hid h0
        have HT := hid hT
        clear h0 hT
        obtain rfl | rfl | rfl | rfl | rfl : k = 0 ∨ k = 1 ∨ k = 2 ∨ k = 3 ∨ k = 4 := by omega
        · cases b
          · go_wp2_with fail
            first | go_roundw | refine ⟨?rel, ?measure⟩
            case rel => exact ⟨1, false, by omega, rfl, rfl, by rw [isTK, HT.out]; rfl, H0.out, hb⟩
            case measure => simp [intOf]
          · obtain ⟨p, hp⟩ : ∃ p, Hid (isF d.f0 = p) := ⟨_, rfl⟩
            go_wp2_with fail
            refine (refF_at hp.out _ s0).mono ?_
            rintro x w2 ⟨rfl, hb2⟩
            have K := hid (var_on hb2 H0.out l0)
            have hB' := below_on hb hb2
            clear hb2 hb
            go_wp2_with fail
            first | go_roundw | refine ⟨?rel, ?measure⟩
            case rel => exact ⟨1, p, by omega, rfl, rfl, by rw [isTK_s HT.out (hp.out : isF (d.f 0) = p)]; rfl, K.out, hB'⟩
            case measure => simp [intOf]
        · cases b
          · go_wp2_with fail
            first | go_roundw | refine ⟨?rel, ?measure⟩
            case rel => exact ⟨2, false, by omega, rfl, rfl, by rw [isTK, HT.out]; rfl, H0.out, hb⟩
            case measure => simp [intOf]
          · obtain ⟨p, hp⟩ : ∃ p, Hid (isF d.f1 = p) := ⟨_, rfl⟩
            go_wp2_with fail
            refine (refF_at hp.out _ s1).mono ?_
            rintro x w2 ⟨rfl, hb2⟩
            have K := hid (var_on hb2 H0.out l0)
            have hB' := below_on hb hb2
            clear hb2 hb
            go_wp2_with fail
            first | go_roundw | refine ⟨?rel, ?measure⟩
            case rel => exact ⟨2, p, by omega, rfl, rfl, by rw [isTK_s HT.out (hp.out : isF (d.f 1) = p)]; rfl, K.out, hB'⟩
            case measure => simp [intOf]
        · cases b
          · go_wp2_with fail
            first | go_roundw | refine ⟨?rel, ?measure⟩
            case rel => exact ⟨3, false, by omega, rfl, rfl, by rw [isTK, HT.out]; rfl, H0.out, hb⟩
            case measure => simp [intOf]
          · obtain ⟨p, hp⟩ : ∃ p, Hid (isF d.f2 = p) := ⟨_, rfl⟩
            go_wp2_with fail
            refine (refF_at hp.out _ s2).mono ?_
            rintro x w2 ⟨rfl, hb2⟩
            have K := hid (var_on hb2 H0.out l0)
            have hB' := below_on hb hb2
            clear hb2 hb
            go_wp2_with fail
            first | go_roundw | refine ⟨?rel, ?measure⟩
            case rel => exact ⟨3, p, by omega, rfl, rfl, by rw [isTK_s HT.out (hp.out : isF (d.f 2) = p)]; rfl, K.out, hB'⟩
            case measure => simp [intOf]
        · cases b
          · go_wp2_with fail
            first | go_roundw | refine ⟨?rel, ?measure⟩
            case rel => exact ⟨4, false, by omega, rfl, rfl, by rw [isTK, HT.out]; rfl, H0.out, hb⟩
            case measure => simp [intOf]
          · obtain ⟨p, hp⟩ : ∃ p, Hid (isF d.f3 = p) := ⟨_, rfl⟩
            go_wp2_with fail
            refine (refF_at hp.out _ s3).mono ?_
            rintro x w2 ⟨rfl, hb2⟩
            have K := hid (var_on hb2 H0.out l0)
            have hB' := below_on hb hb2
            clear hb2 hb
            go_wp2_with fail
            first | go_roundw | refine ⟨?rel, ?measure⟩
            case rel => exact ⟨4, p, by omega, rfl, rfl, by rw [isTK_s HT.out (hp.out : isF (d.f 3) = p)]; rfl, K.out, hB'⟩
            case measure => simp [intOf]
        · go_wp2_with fail
          go_ret; exact ⟨congrArg (fun x => Ending.returned (.bool x)) (HT.out.symm), hb⟩
theorem isT_no1 {t : Th} (h : ¬ (0 ≤ t.id ∧ t.id ≤ 1000000)) : isT t = false := by
  rw [isT_eq]
  cases hd : (decide (0 ≤ t.id) && decide (t.id ≤ 1000000))
  · simp
  · simp at hd; omega
theorem isT_no2 {t : Th} (h : onB t.x t.y = false) : isT t = false := by rw [isT_eq, h]; simp
theorem isT_no3 {t : Th} {k : Nat} (hk : k < 4) (h : isF (t.f k) = false) : isT t = false := by
  rw [isT_eq]
  obtain rfl | rfl | rfl | rfl : k = 0 ∨ k = 1 ∨ k = 2 ∨ k = 3 := by omega
  · rw [show isF t.f0 = false from h]; simp
  · rw [show isF t.f1 = false from h]; simp
  · rw [show isF t.f2 = false from h]; simp
  · rw [show isF t.f3 = false from h]; simp
theorem isT_yes {t : Th} (h : 0 ≤ t.id ∧ t.id ≤ 1000000) (h1 : onB t.x t.y = true) (h2 : ∀ j, j < 4 → isF (t.f j) = true) : isT t = true := by
  rw [isT_eq, h1, show isF t.f0 = true from h2 0 (by omega), show isF t.f1 = true from h2 1 (by omega), show isF t.f2 = true from h2 2 (by omega), show isF t.f3 = true from h2 3 (by omega)]
  simp [h]
theorem index_th (t : Th) (k : Nat) (hk : k < 4) (W : World) : (Instr.index 31 (.agg #[.int .i64 t.f0.n, .string t.f0.s, .int .i64 t.f1.n, .string t.f1.s, .int .i64 t.f2.n, .string t.f2.s, .int .i64 t.f3.n, .string t.f3.s]) (.int .i64 k)).run Tryz.prog W = .ok (t.f k).v W := by
  obtain rfl | rfl | rfl | rfl : k = 0 ∨ k = 1 ∨ k = 2 ∨ k = 3 := by omega
  · exact indexA_f0 W _ _ _ _ _ _ _ _
  · exact indexA_f1 W _ _ _ _ _ _ _ _
  · exact indexA_f2 W _ _ _ _ _ _ _ _
  · exact indexA_f3 W _ _ _ _ _ _ _ _
set_option maxHeartbeats 1000000 in
theorem thing_is (w : World) (t : Th) (hi : inT t) : Calls Tryz.prog 27 #[t.v] w fun e w' => e = .returned (.bool (isT t)) ∧ Below w.heap.size w w' := by
  obtain ⟨o, ho⟩ : ∃ o, Hid (onB t.x t.y = o) := ⟨_, rfl⟩
  have K0 : Hid ((w.alloc t.o).heap[w.heap.size]? = some t.o) := new_at _ _ _ rfl
  by_cases hA : 0 ≤ t.id ∧ t.id ≤ 1000000
  · obtain ⟨a1, a2⟩ := hA
    go_enter Tryz.func27, Tryz.ntmps27
    go_wp2_with fail
    refine (on_at ho _).mono ?_
    rintro x w1 ⟨rfl, hb1⟩
    have K1 := hid (var_on hb1 K0.out (at_lt K0.out))
    have hB := below_on (below1 w t.o) hb1
    have c1 := cells_at K1.out
    have l1 := at_lt K1.out
    clear hb1 K0
    cases o
    · go_wp2_with fail
      go_ret; exact ⟨congrArg (fun x => Ending.returned (.bool x)) ((isT_no2 ho.out).symm), hB⟩
    · go_wp2_with fail
      clear c1 l1
      go_loopw [21] (fun i wr => ∃ k : Nat, k ≤ 4 ∧ i = .int .i64 k ∧ (∀ j, j < k → isF (t.f j) = true) ∧ Below w.heap.size w wr) (fun i _ => 4 - (intOf i).toNat)
      case atStart => exact ⟨0, by omega, rfl, fun j hj => by omega, hB⟩
      case round =>
        clear hB K1
        obtain ⟨k, hk, rfl, hok, hb⟩ := hrel
        have HO := hid hok
        clear hok
        by_cases hlt : k < 4
        · have hlt' : (k : Int) < 4 := by omega
          have hI := index_th t k hlt
          obtain ⟨f, hf⟩ : ∃ f, Hid (t.f k = f) := ⟨_, rfl⟩
          rw [hf.out] at hI
          have hfs : f.s.size ≤ maxLen := by rw [← hf.out]; exact inT_s hi k
          obtain ⟨q, hq⟩ : ∃ q, Hid (isF f = q) := ⟨_, rfl⟩
          have hs := hb.size
          go_wp2_with fail
          refine (isF_at hq.out _ hfs).mono ?_
          rintro x w2 ⟨rfl, hb2⟩
          have hB2 := below_on (hb.alloc hs f.o) hb2
          clear hb2 hb
          cases q
          · go_wp2_with fail
            go_ret; exact ⟨congrArg (fun x => Ending.returned (.bool x)) ((isT_no3 hlt (by rw [hf.out]; exact hq.out)).symm), hB2⟩
          · go_wp2_with fail
            go_roundw
            case rel =>
              refine ⟨k + 1, by omega, by go_num, fun j hj => ?_, hB2⟩
              by_cases e : j = k
              · subst e; rw [hf.out]; exact hq.out
              · exact HO.out j (by omega)
            case measure => simp [intOf]; omega
        · obtain rfl : k = 4 := by omega
          go_wp2_with fail
          go_ret; exact ⟨congrArg (fun x => Ending.returned (.bool x)) ((isT_yes ⟨a1, a2⟩ ho.out HO.out).symm), hb⟩
  · have hF := hid (isT_no1 hA)
    rw [hF.out]
    go_enter Tryz.func27, Tryz.ntmps27
    go_wp2_with fail
    all_goals first
      | (exfalso; omega)
      | (go_ret; exact ⟨rfl, below1 _ _⟩)
theorem isT_at {t : Th} {q : Bool} (h : Hid (isT t = q)) (w : World) (hi : inT t) : Calls Tryz.prog 27 #[t.v] w fun e w' => e = .returned (.bool q) ∧ Below w.heap.size w w' := by
  rw [← h.out]; exact thing_is w t hi
def fewL (L : List Th) : Bool := L.all (fun t => few4 t.f) && decide (L.length ≤ 30)
theorem fewL_no {L : List Th} {k : Nat} {t : Th} (h : L[k]? = some t) (hf : few4 t.f = false) : fewL L = false := by
  have hm := List.mem_of_getElem? h
  have : L.all (fun t => few4 t.f) = false := by
    rw [List.all_eq_false]
    exact ⟨t, hm, by simp [hf]⟩
  unfold fewL
  rw [this]; rfl
theorem fewL_yes {L : List Th} (h : ∀ j t, j < L.length → L[j]? = some t → few4 t.f = true) : fewL L = decide ((L.length : Int) ≤ 30) := by
  have : L.all (fun t => few4 t.f) = true := by
    rw [List.all_eq_true]
    intro t ht
    obtain ⟨j, hj, rfl⟩ := List.getElem_of_mem ht
    exact h j _ hj (by simp [hj])
  unfold fewL
  rw [this, Bool.true_and]
  rw [Bool.eq_iff_iff]
  simp
  omega
theorem fewT_at {t : Th} {r : Bool} (h : few4 t.f = r) (w : World) (hi : inT t) : Calls Tryz.prog 6 #[t.v] w fun e w' => e = .returned (.bool r) ∧ Below w.heap.size w w' := by
  rw [← h]; exact few_thing w t hi
def sameL (L M : List Th) : Bool := decide (L.length = M.length) && (List.range L.length).all (fun k => eqT (L.getD k zT) (M.getD k zT))
theorem sameL_self (L : List Th) : sameL L L = true := by simp [sameL, eqT_self]
theorem sameL_no {L M : List Th} {k : Nat} {t u : Th} (ht : L[k]? = some t) (hu : M[k]? = some u) (h : eqT t u = false) : sameL L M = false := by
  have hk : k < L.length := (List.getElem?_eq_some_iff.1 ht).1
  have : (List.range L.length).all (fun k => eqT (L.getD k zT) (M.getD k zT)) = false := by
    rw [List.all_eq_false]
    exact ⟨k, List.mem_range.2 hk, by rw [getD_of ht, getD_of hu, h]; simp⟩
  unfold sameL
  rw [this, Bool.and_false]
theorem sameL_yes {L M : List Th} (hl : L.length = M.length) (h : ∀ (k : Nat) (t u : Th), L[k]? = some t → M[k]? = some u → eqT t u = true) : sameL L M = true := by
  unfold sameL
  rw [Bool.and_eq_true, decide_eq_true_eq, List.all_eq_true]
  refine ⟨hl, fun k hk => ?_⟩
  have hk := List.mem_range.1 hk
  obtain ⟨t, ht⟩ := get_th L k hk
  obtain ⟨u, hu⟩ := get_th M k (by omega)
  rw [getD_of ht, getD_of hu]
  exact h k t u ht hu
set_option maxHeartbeats 1000000 in
theorem ref_sameAll (w : World) (p p' : Option Addr) (cap cap' : Nat) (L M : List Th) (hr : RowT w p L) (hr' : RowT w p' M) (hm : L.length ≤ maxLen) (hm' : M.length ≤ maxLen) :
    Calls Tryz.prog 16 #[.slice p L.length cap, .slice p' M.length cap'] w fun e w' => e = .returned (.bool (sameL L M)) ∧ Below w.heap.size w w' := by
  by_cases hl : L.length = M.length
  · obtain ⟨n, hn⟩ : ∃ n, Hid (M.length = n) := ⟨_, rfl⟩
    have hl' := hid hl
    rw [hl, hn.out]
    rw [hn.out] at hm'
    have hm2 : n ≤ 9223372036854775807 := by unfold maxLen at hm'; omega
    have hnn : ((n : Int) != (n : Int)) = false := by simp
    clear hl hm
    go_enter Tryz.func16, Tryz.ntmps16
    go_wp2_with fail
    go_loopw [5] (fun i wr => ∃ k : Nat, k ≤ n ∧ i = .int .i64 k ∧ (∀ (j : Nat) (t u : Th), j < k → L[j]? = some t → M[j]? = some u → eqT t u = true) ∧ Below w.heap.size w wr) (fun i _ => n - (intOf i).toNat)
    case atStart => exact ⟨0, by omega, rfl, fun j t u hj => by omega, Below.refl _ _⟩
    case round =>
      obtain ⟨k, hk, rfl, hok, hb⟩ := hrel
      have HO := hid hok
      clear hok
      by_cases hlt : k < n
      · have hlt' : (k : Int) < (n : Int) := by omega
        have hlt0 : (0 : Int) ≤ (k : Int) := by omega
        obtain ⟨t, ht⟩ := get_th L k (by rw [hl'.out, hn.out]; exact hlt)
        obtain ⟨u, hu⟩ := get_th M k (by rw [hn.out]; exact hlt)
        obtain ⟨b, off, rfl, _⟩ := (hr.later hb).at ht
        obtain ⟨b', off', rfl, _⟩ := (hr'.later hb).at hu
        have hc : ∀ d os, cellsT (Sort.grow (redrawn wr d) os) b (off + k * 11) t := fun d os => by
          obtain ⟨_, _, e, h⟩ := ((hr.later hb).later (below_regrown wr d os)).at ht
          simp only [Option.some.injEq, Addr.mk.injEq, and_true] at e
          obtain ⟨rfl, rfl⟩ := e
          exact h
        have hc' : ∀ d os, cellsT (Sort.grow (redrawn wr d) os) b' (off' + k * 11) u := fun d os => by
          obtain ⟨_, _, e, h⟩ := ((hr'.later hb).later (below_regrown wr d os)).at hu
          simp only [Option.some.injEq, Addr.mk.injEq, and_true] at e
          obtain ⟨rfl, rfl⟩ := e
          exact h
        have HT := hid ht
        have HU := hid hu
        clear ht hu
        obtain ⟨q, hq⟩ : ∃ q, Hid (eqT t u = q) := ⟨_, rfl⟩
        have hQ := equal_th_at hq.out
        have hfin : ∀ d os, Hid (Below w.heap.size w (Sort.grow (redrawn wr d) os)) := fun d os => below_on hb (below_regrown wr d os)
        clear hb
        go_wp2_with fail
        refine wp_region_quiet_below (by kernel_rfl) (by kernel_rfl) ?_
        repeat (first | go_big_quiet_skip | (go_big_quiet_want; go_big_quiet_op; first | go_big_quiet_on | go_big_quiet_call (fail)))
        refine wpQuiet_nil ?_
        intro _ hw'
        obtain ⟨⟨dq, osq⟩, hw''⟩ := hw'
        subst hw''
        have hB := hfin dq osq
        obtain ⟨W8, hW8⟩ : ∃ W8, Sort.grow (redrawn wr dq) osq = W8 := ⟨_, rfl⟩
        rw [hW8] at hB ⊢
        clear hW8 hc hc' hfin
        cases q
        · go_wp2_with fail
          go_ret; exact ⟨congrArg (fun x => Ending.returned (.bool x)) (sameL_no HT.out HU.out hq.out).symm, hB.out⟩
        · go_wp2_with fail
          go_roundw
          case rel =>
            refine ⟨k + 1, by omega, by go_num, fun j x y hj hx hy => ?_, hB.out⟩
            by_cases e : j = k
            · subst e
              have e1 := Option.some.inj (HT.out.symm.trans hx)
              have e2 := Option.some.inj (HU.out.symm.trans hy)
              subst e1 e2
              exact hq.out
            · exact HO.out j x y (by omega) hx hy
          case measure => simp [intOf]; omega
      · obtain rfl : k = n := by omega
        go_wp2_with fail
        go_ret
        exact ⟨congrArg (fun x => Ending.returned (.bool x)) (sameL_yes hl'.out (fun j t u ht hu => HO.out j t u (by rw [← hn.out, ← hl'.out]; exact (List.getElem?_eq_some_iff.1 ht).1) ht hu)).symm, hb⟩
  · have hne : ((L.length : Int) != (M.length : Int)) = true := by simp; omega
    have hf : Hid (sameL L M = false) := by show sameL L M = false; unfold sameL; rw [decide_eq_false hl, Bool.false_and]
    clear hl
    go_enter Tryz.func16, Tryz.ntmps16
    go_wp2_with fail
    go_ret; exact ⟨congrArg (fun x => Ending.returned (.bool x)) hf.out.symm, Below.refl _ _⟩
end Go.Proofs.YtildhbkcpehobaaGreatDoor
