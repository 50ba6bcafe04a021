/- For every delta d and every number which: FieldsSpoils answers true: a delta in which one thing is spoilt is none, its bytes are refused, and it is not the same (deltas with a text above 40 bytes, and what is no delta, are passed over by the statement itself). -/
import Derived.Test.YtaokhgbkghbpmaaKnown6
import Derived.ProofKit
import Derived.OpenShut
import Derived.ShutString
import Derived.ChangeOld
import Derived.Below
import Derived.SizedLaws
namespace Go.Proofs.Ytaokhgbkghbpmaa
open Go.ChangeShapes Go.WideShapes Go.ChangeAt Go.RowKit
open Go.ChangeMaps (open_string shut_string)
set_option linter.unusedVariables false

theorem sizes4 {id : Int} {m : Nat} {x y : Int} {f0 f1 f2 f3 : Fl} (h0 : f0.s.size ≤ maxLen) (h1 : f1.s.size ≤ maxLen) (h2 : f2.s.size ≤ maxLen) (h3 : f3.s.size ≤ maxLen) : ∀ k, (Dl.f ⟨id, m, x, y, f0, f1, f2, f3⟩ k).s.size ≤ maxLen := fun k => by
  match k with
  | 0 => exact h0
  | 1 => exact h1
  | 2 => exact h2
  | k + 3 => exact h3
theorem spoil_ne {d X : Dl} (h : isD d = true) (hx : isD X = false) : eqD d X = false := by
  rw [eqD_no]
  intro e
  rw [e, hx] at h
  cases h
theorem few_delta_at {d : Dl} {r : Bool} (h : few4 d.f = r) (w : World) (hi : inD d) : Calls Try.prog 11 #[d.v] w fun e w' => e = .returned (.bool r) ∧ Below w.heap.size w w' := by
  rw [← h]; exact few_delta w d hi
theorem bad_text : isF ⟨1, ⟨#[97]⟩⟩ = false := by decide +kernel
theorem or32 (m : Nat) : 32 ≤ m ||| 32 := Nat.right_le_or
theorem or32' (m : Nat) (h : m ≤ 31) : m ||| 32 < 64 := Nat.or_lt_two_pow (n := 6) (by omega) (by omega)
set_option maxRecDepth 100000 in
set_option maxHeartbeats 4000000 in
theorem fieldsSpoils_walk (w : World) (a0 : Dl) (w0 : inD a0) (a1 : Int) (w1 : (Lit.int .u8 a1).wf = true) : Calls Try.prog 8 #[a0.v, .int .u8 a1] w fun e w' => e = .returned (.bool true) ∧ Below w.heap.size w w' := by
  obtain ⟨b1, b2⟩ := u8_bounds w1
  clear w1
  obtain ⟨f, hf⟩ : ∃ f, Hid (few4 a0.f = f) := ⟨_, rfl⟩
  obtain ⟨q, hq⟩ : ∃ q, Hid (isD a0 = q) := ⟨_, rfl⟩
  obtain ⟨im, i0, i1, i2, i3⟩ := w0
  have W0 : Hid (inD a0) := ⟨im, i0, i1, i2, i3⟩
  have s0 := i0.1
  have s1 := i1.1
  have s2 := i2.1
  have s3 := i3.1
  have HS : Hid (∀ k, (a0.f k).s.size ≤ maxLen) := sizes4 s0 s1 s2 s3
  have T0 := hid s0
  have T1 := hid s1
  have T2 := hid s2
  have T3 := hid s3
  clear i0 i1 i2 i3 s0 s1 s2 s3
  have K0 : Hid ((w.alloc a0.o).heap[w.heap.size]? = some a0.o) := new_at _ _ _ rfl
  go_enter Try.func8, Try.ntmps8
  go_wp2_with fail
  refine (known_holds _).mono ?_
  rintro x w2 ⟨rfl, hb⟩
  have K1 := hid (var_on hb K0.out (at_lt K0.out))
  have hB := below_on (below1 w a0.o) hb
  have c1 := cells_at K1.out
  have l1 := at_lt K1.out
  clear hb K0
  go_wp2_with fail
  refine (few_delta_at hf.out _ W0.out).mono ?_
  rintro x w3 ⟨rfl, hb⟩
  replace K1 := hid (var_on hb K1.out l1)
  replace hB := below_on hB hb
  clear c1 hb
  have c1 := cells_at K1.out
  replace l1 := at_lt K1.out
  cases f
  · go_wp2_with fail
    go_ret
    exact ⟨rfl, hB⟩
  go_wp2_with fail
  refine (isD_at hq im HS.out _).mono ?_
  rintro x w4 ⟨rfl, hb⟩
  replace K1 := hid (var_on hb K1.out l1)
  replace hB := below_on hB hb
  clear c1 hb
  have c1 := cells_at K1.out
  replace l1 := at_lt K1.out
  cases q
  · go_wp2_with fail
    go_ret
    exact ⟨rfl, hB⟩
  obtain ⟨d1, d2, d3, d4, d5, d6, d7, d8, d9, d10⟩ := isD_small hq.out
  clear d9 d10
  have hc : a1 % 6 = 0 ∨ a1 % 6 = 1 ∨ a1 % 6 = 2 ∨ a1 % 6 = 3 ∨ (a1 % 6 = 4 ∧ a1 / 6 % 4 = 0) ∨ (a1 % 6 = 4 ∧ a1 / 6 % 4 = 1) ∨ (a1 % 6 = 4 ∧ a1 / 6 % 4 = 2) ∨ (a1 % 6 = 4 ∧ a1 / 6 % 4 = 3) ∨ a1 % 6 = 5 := by omega
  rcases hc with hc | hc | hc | hc | ⟨hc, hj⟩ | ⟨hc, hj⟩ | ⟨hc, hj⟩ | ⟨hc, hj⟩ | hc
  · have hx : Hid (isD ⟨-1, a0.m, a0.x, a0.y, a0.f0, a0.f1, a0.f2, a0.f3⟩ = false) := hid (isD_no1 (fun h => absurd h.1 (by show ¬ ((0 : Int) ≤ -1); decide)))
    have hs : ∀ k, (Dl.f ⟨-1, a0.m, a0.x, a0.y, a0.f0, a0.f1, a0.f2, a0.f3⟩ k).s.size ≤ maxLen := sizes4 T0.out T1.out T2.out T3.out
    have HSX := hid hs
    clear hs
    have hne : Hid (eqD a0 ⟨-1, a0.m, a0.x, a0.y, a0.f0, a0.f1, a0.f2, a0.f3⟩ = false) := hid (spoil_ne hq.out hx.out)
    go_wp2_with fail
    refine (fields_bytes_no _ ⟨-1, a0.m, a0.x, a0.y, a0.f0, a0.f1, a0.f2, a0.f3⟩ hx.out im HSX.out).mono ?_
    rintro x w5 ⟨rfl, hb⟩
    have K2 := hid (var_on (o := Dl.o ⟨-1, a0.m, a0.x, a0.y, a0.f0, a0.f1, a0.f2, a0.f3⟩) (g := w4.heap.size) hb (new_at _ _ _ rfl) (by simp))
    replace K1 := hid (var_on hb (old_at K1.out _) (at_lt (old_at K1.out _)))
    replace hB := below_on (hB.alloc (by omega) _) hb
    clear hb c1
    have c1 := cells_at K1.out
    have c2 := cells_at K2.out
    replace l1 := at_lt K1.out
    have l2 := at_lt K2.out
    go_wp2_with fail
    refine (isD_at (d := ⟨-1, a0.m, a0.x, a0.y, a0.f0, a0.f1, a0.f2, a0.f3⟩) hx im HSX.out _).mono ?_
    rintro x w6 ⟨rfl, hb⟩
    replace K1 := hid (var_on hb K1.out l1)
    replace K2 := hid (var_on hb K2.out l2)
    replace hB := below_on hB hb
    clear hb c1 c2
    have c1 := cells_at K1.out
    have c2 := cells_at K2.out
    replace l1 := at_lt K1.out
    replace l2 := at_lt K2.out
    go_wp2_with fail
    refine (same_at (a := a0) (b := ⟨-1, a0.m, a0.x, a0.y, a0.f0, a0.f1, a0.f2, a0.f3⟩) hne _).mono ?_
    rintro x w7 ⟨rfl, hb⟩
    replace K1 := hid (var_on hb K1.out l1)
    replace hB := below_on hB hb
    clear hb c1 c2
    have c1 := cells_at K1.out
    replace l1 := at_lt K1.out
    go_wp2_with fail
    refine (refIsD_at hq.out _ im HS.out).mono ?_
    rintro x w8 ⟨rfl, hb⟩
    replace hB := below_on hB hb
    go_wp2_with fail
    go_ret
    exact ⟨rfl, hB⟩
  · obtain ⟨U, hU⟩ : ∃ U, Hid (a0.m ||| 32 = U) := ⟨_, rfl⟩
    have hor : bits .or .u8 (a0.m : Int) 32 = (U : Int) := by rw [← hU.out]; exact u8_or_nat a0.m 32 (by omega) (by omega)
    have u1 : 32 ≤ U := by rw [← hU.out]; exact or32 _
    have u2 : U < 64 := by rw [← hU.out]; exact or32' _ d4
    have hx : Hid (isD ⟨a0.id, U, a0.x, a0.y, a0.f0, a0.f1, a0.f2, a0.f3⟩ = false) := hid (isD_no1 (fun h => by have h4 : U ≤ 31 := h.2.2.2; omega))
    have hs : ∀ k, (Dl.f ⟨a0.id, U, a0.x, a0.y, a0.f0, a0.f1, a0.f2, a0.f3⟩ k).s.size ≤ maxLen := sizes4 T0.out T1.out T2.out T3.out
    have HSX := hid hs
    clear hs
    have hne : Hid (eqD a0 ⟨a0.id, U, a0.x, a0.y, a0.f0, a0.f1, a0.f2, a0.f3⟩ = false) := hid (spoil_ne hq.out hx.out)
    go_wp2_with fail
    refine (fields_bytes_no _ ⟨a0.id, U, a0.x, a0.y, a0.f0, a0.f1, a0.f2, a0.f3⟩ hx.out (by show U < 256; omega) HSX.out).mono ?_
    rintro x w5 ⟨rfl, hb⟩
    have K2 := hid (var_on (o := Dl.o ⟨a0.id, U, a0.x, a0.y, a0.f0, a0.f1, a0.f2, a0.f3⟩) (g := w4.heap.size) hb (new_at _ _ _ rfl) (by simp))
    replace K1 := hid (var_on hb (old_at K1.out _) (at_lt (old_at K1.out _)))
    replace hB := below_on (hB.alloc (by omega) _) hb
    clear hb c1
    have c1 := cells_at K1.out
    have c2 := cells_at K2.out
    replace l1 := at_lt K1.out
    have l2 := at_lt K2.out
    go_wp2_with fail
    refine (isD_at (d := ⟨a0.id, U, a0.x, a0.y, a0.f0, a0.f1, a0.f2, a0.f3⟩) hx (by show U < 256; omega) HSX.out _).mono ?_
    rintro x w6 ⟨rfl, hb⟩
    replace K1 := hid (var_on hb K1.out l1)
    replace K2 := hid (var_on hb K2.out l2)
    replace hB := below_on hB hb
    clear hb c1 c2
    have c1 := cells_at K1.out
    have c2 := cells_at K2.out
    replace l1 := at_lt K1.out
    replace l2 := at_lt K2.out
    go_wp2_with fail
    refine (same_at (a := a0) (b := ⟨a0.id, U, a0.x, a0.y, a0.f0, a0.f1, a0.f2, a0.f3⟩) hne _).mono ?_
    rintro x w7 ⟨rfl, hb⟩
    replace K1 := hid (var_on hb K1.out l1)
    replace hB := below_on hB hb
    clear hb c1 c2
    have c1 := cells_at K1.out
    replace l1 := at_lt K1.out
    go_wp2_with fail
    refine (refIsD_at hq.out _ im HS.out).mono ?_
    rintro x w8 ⟨rfl, hb⟩
    replace hB := below_on hB hb
    go_wp2_with fail
    go_ret
    exact ⟨rfl, hB⟩
  · have hx : Hid (isD ⟨a0.id, 0, a0.x, a0.y, a0.f0, a0.f1, a0.f2, a0.f3⟩ = false) := hid (isD_no1 (fun h => absurd h.2.2.1 (by show ¬ (1 ≤ (0 : Nat)); decide)))
    have hs : ∀ k, (Dl.f ⟨a0.id, 0, a0.x, a0.y, a0.f0, a0.f1, a0.f2, a0.f3⟩ k).s.size ≤ maxLen := sizes4 T0.out T1.out T2.out T3.out
    have HSX := hid hs
    clear hs
    have hne : Hid (eqD a0 ⟨a0.id, 0, a0.x, a0.y, a0.f0, a0.f1, a0.f2, a0.f3⟩ = false) := hid (spoil_ne hq.out hx.out)
    go_wp2_with fail
    refine (fields_bytes_no _ ⟨a0.id, 0, a0.x, a0.y, a0.f0, a0.f1, a0.f2, a0.f3⟩ hx.out (by show 0 < 256; decide) HSX.out).mono ?_
    rintro x w5 ⟨rfl, hb⟩
    have K2 := hid (var_on (o := Dl.o ⟨a0.id, 0, a0.x, a0.y, a0.f0, a0.f1, a0.f2, a0.f3⟩) (g := w4.heap.size) hb (new_at _ _ _ rfl) (by simp))
    replace K1 := hid (var_on hb (old_at K1.out _) (at_lt (old_at K1.out _)))
    replace hB := below_on (hB.alloc (by omega) _) hb
    clear hb c1
    have c1 := cells_at K1.out
    have c2 := cells_at K2.out
    replace l1 := at_lt K1.out
    have l2 := at_lt K2.out
    go_wp2_with fail
    refine (isD_at (d := ⟨a0.id, 0, a0.x, a0.y, a0.f0, a0.f1, a0.f2, a0.f3⟩) hx (by show 0 < 256; decide) HSX.out _).mono ?_
    rintro x w6 ⟨rfl, hb⟩
    replace K1 := hid (var_on hb K1.out l1)
    replace K2 := hid (var_on hb K2.out l2)
    replace hB := below_on hB hb
    clear hb c1 c2
    have c1 := cells_at K1.out
    have c2 := cells_at K2.out
    replace l1 := at_lt K1.out
    replace l2 := at_lt K2.out
    go_wp2_with fail
    refine (same_at (a := a0) (b := ⟨a0.id, 0, a0.x, a0.y, a0.f0, a0.f1, a0.f2, a0.f3⟩) hne _).mono ?_
    rintro x w7 ⟨rfl, hb⟩
    replace K1 := hid (var_on hb K1.out l1)
    replace hB := below_on hB hb
    clear hb c1 c2
    have c1 := cells_at K1.out
    replace l1 := at_lt K1.out
    go_wp2_with fail
    refine (refIsD_at hq.out _ im HS.out).mono ?_
    rintro x w8 ⟨rfl, hb⟩
    replace hB := below_on hB hb
    go_wp2_with fail
    go_ret
    exact ⟨rfl, hB⟩
  · have hx : Hid (isD ⟨a0.id, a0.m, 64, 0, a0.f0, a0.f1, a0.f2, a0.f3⟩ = false) := hid (isD_no2 (by show onB 64 0 = false; decide +kernel))
    have hs : ∀ k, (Dl.f ⟨a0.id, a0.m, 64, 0, a0.f0, a0.f1, a0.f2, a0.f3⟩ k).s.size ≤ maxLen := sizes4 T0.out T1.out T2.out T3.out
    have HSX := hid hs
    clear hs
    have hne : Hid (eqD a0 ⟨a0.id, a0.m, 64, 0, a0.f0, a0.f1, a0.f2, a0.f3⟩ = false) := hid (spoil_ne hq.out hx.out)
    go_wp2_with fail
    refine (fields_bytes_no _ ⟨a0.id, a0.m, 64, 0, a0.f0, a0.f1, a0.f2, a0.f3⟩ hx.out im HSX.out).mono ?_
    rintro x w5 ⟨rfl, hb⟩
    have K2 := hid (var_on (o := Dl.o ⟨a0.id, a0.m, 64, 0, a0.f0, a0.f1, a0.f2, a0.f3⟩) (g := w4.heap.size) hb (new_at _ _ _ rfl) (by simp))
    replace K1 := hid (var_on hb (old_at K1.out _) (at_lt (old_at K1.out _)))
    replace hB := below_on (hB.alloc (by omega) _) hb
    clear hb c1
    have c1 := cells_at K1.out
    have c2 := cells_at K2.out
    replace l1 := at_lt K1.out
    have l2 := at_lt K2.out
    go_wp2_with fail
    refine (isD_at (d := ⟨a0.id, a0.m, 64, 0, a0.f0, a0.f1, a0.f2, a0.f3⟩) hx im HSX.out _).mono ?_
    rintro x w6 ⟨rfl, hb⟩
    replace K1 := hid (var_on hb K1.out l1)
    replace K2 := hid (var_on hb K2.out l2)
    replace hB := below_on hB hb
    clear hb c1 c2
    have c1 := cells_at K1.out
    have c2 := cells_at K2.out
    replace l1 := at_lt K1.out
    replace l2 := at_lt K2.out
    go_wp2_with fail
    refine (same_at (a := a0) (b := ⟨a0.id, a0.m, 64, 0, a0.f0, a0.f1, a0.f2, a0.f3⟩) hne _).mono ?_
    rintro x w7 ⟨rfl, hb⟩
    replace K1 := hid (var_on hb K1.out l1)
    replace hB := below_on hB hb
    clear hb c1 c2
    have c1 := cells_at K1.out
    replace l1 := at_lt K1.out
    go_wp2_with fail
    refine (refIsD_at hq.out _ im HS.out).mono ?_
    rintro x w8 ⟨rfl, hb⟩
    replace hB := below_on hB hb
    go_wp2_with fail
    go_ret
    exact ⟨rfl, hB⟩
  · have hx : Hid (isD ⟨a0.id, a0.m, a0.x, a0.y, ⟨1, ⟨#[97]⟩⟩, a0.f1, a0.f2, a0.f3⟩ = false) := hid (isD_no4 (k := 0) (by omega) (by unfold okf; rw [show isF (Dl.f ⟨a0.id, a0.m, a0.x, a0.y, ⟨1, ⟨#[97]⟩⟩, a0.f1, a0.f2, a0.f3⟩ 0) = false from bad_text]; rfl))
    have hs : ∀ k, (Dl.f ⟨a0.id, a0.m, a0.x, a0.y, ⟨1, ⟨#[97]⟩⟩, a0.f1, a0.f2, a0.f3⟩ k).s.size ≤ maxLen := sizes4 (by decide) T1.out T2.out T3.out
    have HSX := hid hs
    clear hs
    have hne : Hid (eqD a0 ⟨a0.id, a0.m, a0.x, a0.y, ⟨1, ⟨#[97]⟩⟩, a0.f1, a0.f2, a0.f3⟩ = false) := hid (spoil_ne hq.out hx.out)
    go_wp2_with fail
    refine (fields_bytes_no _ ⟨a0.id, a0.m, a0.x, a0.y, ⟨1, ⟨#[97]⟩⟩, a0.f1, a0.f2, a0.f3⟩ hx.out im HSX.out).mono ?_
    rintro x w5 ⟨rfl, hb⟩
    have K2 := hid (var_on (o := Dl.o ⟨a0.id, a0.m, a0.x, a0.y, ⟨1, ⟨#[97]⟩⟩, a0.f1, a0.f2, a0.f3⟩) (g := w4.heap.size) hb (new_at _ _ _ rfl) (by simp))
    replace K1 := hid (var_on hb (old_at K1.out _) (at_lt (old_at K1.out _)))
    replace hB := below_on (hB.alloc (by omega) _) hb
    clear hb c1
    have c1 := cells_at K1.out
    have c2 := cells_at K2.out
    replace l1 := at_lt K1.out
    have l2 := at_lt K2.out
    go_wp2_with fail
    refine (isD_at (d := ⟨a0.id, a0.m, a0.x, a0.y, ⟨1, ⟨#[97]⟩⟩, a0.f1, a0.f2, a0.f3⟩) hx im HSX.out _).mono ?_
    rintro x w6 ⟨rfl, hb⟩
    replace K1 := hid (var_on hb K1.out l1)
    replace K2 := hid (var_on hb K2.out l2)
    replace hB := below_on hB hb
    clear hb c1 c2
    have c1 := cells_at K1.out
    have c2 := cells_at K2.out
    replace l1 := at_lt K1.out
    replace l2 := at_lt K2.out
    go_wp2_with fail
    refine (same_at (a := a0) (b := ⟨a0.id, a0.m, a0.x, a0.y, ⟨1, ⟨#[97]⟩⟩, a0.f1, a0.f2, a0.f3⟩) hne _).mono ?_
    rintro x w7 ⟨rfl, hb⟩
    replace K1 := hid (var_on hb K1.out l1)
    replace hB := below_on hB hb
    clear hb c1 c2
    have c1 := cells_at K1.out
    replace l1 := at_lt K1.out
    go_wp2_with fail
    refine (refIsD_at hq.out _ im HS.out).mono ?_
    rintro x w8 ⟨rfl, hb⟩
    replace hB := below_on hB hb
    go_wp2_with fail
    go_ret
    exact ⟨rfl, hB⟩
  · have hx : Hid (isD ⟨a0.id, a0.m, a0.x, a0.y, a0.f0, ⟨1, ⟨#[97]⟩⟩, a0.f2, a0.f3⟩ = false) := hid (isD_no4 (k := 1) (by omega) (by unfold okf; rw [show isF (Dl.f ⟨a0.id, a0.m, a0.x, a0.y, a0.f0, ⟨1, ⟨#[97]⟩⟩, a0.f2, a0.f3⟩ 1) = false from bad_text]; rfl))
    have hs : ∀ k, (Dl.f ⟨a0.id, a0.m, a0.x, a0.y, a0.f0, ⟨1, ⟨#[97]⟩⟩, a0.f2, a0.f3⟩ k).s.size ≤ maxLen := sizes4 T0.out (by decide) T2.out T3.out
    have HSX := hid hs
    clear hs
    have hne : Hid (eqD a0 ⟨a0.id, a0.m, a0.x, a0.y, a0.f0, ⟨1, ⟨#[97]⟩⟩, a0.f2, a0.f3⟩ = false) := hid (spoil_ne hq.out hx.out)
    go_wp2_with fail
    refine (fields_bytes_no _ ⟨a0.id, a0.m, a0.x, a0.y, a0.f0, ⟨1, ⟨#[97]⟩⟩, a0.f2, a0.f3⟩ hx.out im HSX.out).mono ?_
    rintro x w5 ⟨rfl, hb⟩
    have K2 := hid (var_on (o := Dl.o ⟨a0.id, a0.m, a0.x, a0.y, a0.f0, ⟨1, ⟨#[97]⟩⟩, a0.f2, a0.f3⟩) (g := w4.heap.size) hb (new_at _ _ _ rfl) (by simp))
    replace K1 := hid (var_on hb (old_at K1.out _) (at_lt (old_at K1.out _)))
    replace hB := below_on (hB.alloc (by omega) _) hb
    clear hb c1
    have c1 := cells_at K1.out
    have c2 := cells_at K2.out
    replace l1 := at_lt K1.out
    have l2 := at_lt K2.out
    go_wp2_with fail
    refine (isD_at (d := ⟨a0.id, a0.m, a0.x, a0.y, a0.f0, ⟨1, ⟨#[97]⟩⟩, a0.f2, a0.f3⟩) hx im HSX.out _).mono ?_
    rintro x w6 ⟨rfl, hb⟩
    replace K1 := hid (var_on hb K1.out l1)
    replace K2 := hid (var_on hb K2.out l2)
    replace hB := below_on hB hb
    clear hb c1 c2
    have c1 := cells_at K1.out
    have c2 := cells_at K2.out
    replace l1 := at_lt K1.out
    replace l2 := at_lt K2.out
    go_wp2_with fail
    refine (same_at (a := a0) (b := ⟨a0.id, a0.m, a0.x, a0.y, a0.f0, ⟨1, ⟨#[97]⟩⟩, a0.f2, a0.f3⟩) hne _).mono ?_
    rintro x w7 ⟨rfl, hb⟩
    replace K1 := hid (var_on hb K1.out l1)
    replace hB := below_on hB hb
    clear hb c1 c2
    have c1 := cells_at K1.out
    replace l1 := at_lt K1.out
    go_wp2_with fail
    refine (refIsD_at hq.out _ im HS.out).mono ?_
    rintro x w8 ⟨rfl, hb⟩
    replace hB := below_on hB hb
    go_wp2_with fail
    go_ret
    exact ⟨rfl, hB⟩
  · have hx : Hid (isD ⟨a0.id, a0.m, a0.x, a0.y, a0.f0, a0.f1, ⟨1, ⟨#[97]⟩⟩, a0.f3⟩ = false) := hid (isD_no4 (k := 2) (by omega) (by unfold okf; rw [show isF (Dl.f ⟨a0.id, a0.m, a0.x, a0.y, a0.f0, a0.f1, ⟨1, ⟨#[97]⟩⟩, a0.f3⟩ 2) = false from bad_text]; rfl))
    have hs : ∀ k, (Dl.f ⟨a0.id, a0.m, a0.x, a0.y, a0.f0, a0.f1, ⟨1, ⟨#[97]⟩⟩, a0.f3⟩ k).s.size ≤ maxLen := sizes4 T0.out T1.out (by decide) T3.out
    have HSX := hid hs
    clear hs
    have hne : Hid (eqD a0 ⟨a0.id, a0.m, a0.x, a0.y, a0.f0, a0.f1, ⟨1, ⟨#[97]⟩⟩, a0.f3⟩ = false) := hid (spoil_ne hq.out hx.out)
    go_wp2_with fail
    refine (fields_bytes_no _ ⟨a0.id, a0.m, a0.x, a0.y, a0.f0, a0.f1, ⟨1, ⟨#[97]⟩⟩, a0.f3⟩ hx.out im HSX.out).mono ?_
    rintro x w5 ⟨rfl, hb⟩
    have K2 := hid (var_on (o := Dl.o ⟨a0.id, a0.m, a0.x, a0.y, a0.f0, a0.f1, ⟨1, ⟨#[97]⟩⟩, a0.f3⟩) (g := w4.heap.size) hb (new_at _ _ _ rfl) (by simp))
    replace K1 := hid (var_on hb (old_at K1.out _) (at_lt (old_at K1.out _)))
    replace hB := below_on (hB.alloc (by omega) _) hb
    clear hb c1
    have c1 := cells_at K1.out
    have c2 := cells_at K2.out
    replace l1 := at_lt K1.out
    have l2 := at_lt K2.out
    go_wp2_with fail
    refine (isD_at (d := ⟨a0.id, a0.m, a0.x, a0.y, a0.f0, a0.f1, ⟨1, ⟨#[97]⟩⟩, a0.f3⟩) hx im HSX.out _).mono ?_
    rintro x w6 ⟨rfl, hb⟩
    replace K1 := hid (var_on hb K1.out l1)
    replace K2 := hid (var_on hb K2.out l2)
    replace hB := below_on hB hb
    clear hb c1 c2
    have c1 := cells_at K1.out
    have c2 := cells_at K2.out
    replace l1 := at_lt K1.out
    replace l2 := at_lt K2.out
    go_wp2_with fail
    refine (same_at (a := a0) (b := ⟨a0.id, a0.m, a0.x, a0.y, a0.f0, a0.f1, ⟨1, ⟨#[97]⟩⟩, a0.f3⟩) hne _).mono ?_
    rintro x w7 ⟨rfl, hb⟩
    replace K1 := hid (var_on hb K1.out l1)
    replace hB := below_on hB hb
    clear hb c1 c2
    have c1 := cells_at K1.out
    replace l1 := at_lt K1.out
    go_wp2_with fail
    refine (refIsD_at hq.out _ im HS.out).mono ?_
    rintro x w8 ⟨rfl, hb⟩
    replace hB := below_on hB hb
    go_wp2_with fail
    go_ret
    exact ⟨rfl, hB⟩
  · have hx : Hid (isD ⟨a0.id, a0.m, a0.x, a0.y, a0.f0, a0.f1, a0.f2, ⟨1, ⟨#[97]⟩⟩⟩ = false) := hid (isD_no4 (k := 3) (by omega) (by unfold okf; rw [show isF (Dl.f ⟨a0.id, a0.m, a0.x, a0.y, a0.f0, a0.f1, a0.f2, ⟨1, ⟨#[97]⟩⟩⟩ 3) = false from bad_text]; rfl))
    have hs : ∀ k, (Dl.f ⟨a0.id, a0.m, a0.x, a0.y, a0.f0, a0.f1, a0.f2, ⟨1, ⟨#[97]⟩⟩⟩ k).s.size ≤ maxLen := sizes4 T0.out T1.out T2.out (by decide)
    have HSX := hid hs
    clear hs
    have hne : Hid (eqD a0 ⟨a0.id, a0.m, a0.x, a0.y, a0.f0, a0.f1, a0.f2, ⟨1, ⟨#[97]⟩⟩⟩ = false) := hid (spoil_ne hq.out hx.out)
    go_wp2_with fail
    refine (fields_bytes_no _ ⟨a0.id, a0.m, a0.x, a0.y, a0.f0, a0.f1, a0.f2, ⟨1, ⟨#[97]⟩⟩⟩ hx.out im HSX.out).mono ?_
    rintro x w5 ⟨rfl, hb⟩
    have K2 := hid (var_on (o := Dl.o ⟨a0.id, a0.m, a0.x, a0.y, a0.f0, a0.f1, a0.f2, ⟨1, ⟨#[97]⟩⟩⟩) (g := w4.heap.size) hb (new_at _ _ _ rfl) (by simp))
    replace K1 := hid (var_on hb (old_at K1.out _) (at_lt (old_at K1.out _)))
    replace hB := below_on (hB.alloc (by omega) _) hb
    clear hb c1
    have c1 := cells_at K1.out
    have c2 := cells_at K2.out
    replace l1 := at_lt K1.out
    have l2 := at_lt K2.out
    go_wp2_with fail
    refine (isD_at (d := ⟨a0.id, a0.m, a0.x, a0.y, a0.f0, a0.f1, a0.f2, ⟨1, ⟨#[97]⟩⟩⟩) hx im HSX.out _).mono ?_
    rintro x w6 ⟨rfl, hb⟩
    replace K1 := hid (var_on hb K1.out l1)
    replace K2 := hid (var_on hb K2.out l2)
    replace hB := below_on hB hb
    clear hb c1 c2
    have c1 := cells_at K1.out
    have c2 := cells_at K2.out
    replace l1 := at_lt K1.out
    replace l2 := at_lt K2.out
    go_wp2_with fail
    refine (same_at (a := a0) (b := ⟨a0.id, a0.m, a0.x, a0.y, a0.f0, a0.f1, a0.f2, ⟨1, ⟨#[97]⟩⟩⟩) hne _).mono ?_
    rintro x w7 ⟨rfl, hb⟩
    replace K1 := hid (var_on hb K1.out l1)
    replace hB := below_on hB hb
    clear hb c1 c2
    have c1 := cells_at K1.out
    replace l1 := at_lt K1.out
    go_wp2_with fail
    refine (refIsD_at hq.out _ im HS.out).mono ?_
    rintro x w8 ⟨rfl, hb⟩
    replace hB := below_on hB hb
    go_wp2_with fail
    go_ret
    exact ⟨rfl, hB⟩
  · have hx : Hid (isD ⟨1000001, a0.m, a0.x, a0.y, a0.f0, a0.f1, a0.f2, a0.f3⟩ = false) := hid (isD_no1 (fun h => absurd h.2.1 (by show ¬ ((1000001 : Int) ≤ 1000000); decide)))
    have hs : ∀ k, (Dl.f ⟨1000001, a0.m, a0.x, a0.y, a0.f0, a0.f1, a0.f2, a0.f3⟩ k).s.size ≤ maxLen := sizes4 T0.out T1.out T2.out T3.out
    have HSX := hid hs
    clear hs
    have hne : Hid (eqD a0 ⟨1000001, a0.m, a0.x, a0.y, a0.f0, a0.f1, a0.f2, a0.f3⟩ = false) := hid (spoil_ne hq.out hx.out)
    go_wp2_with fail
    refine (fields_bytes_no _ ⟨1000001, a0.m, a0.x, a0.y, a0.f0, a0.f1, a0.f2, a0.f3⟩ hx.out im HSX.out).mono ?_
    rintro x w5 ⟨rfl, hb⟩
    have K2 := hid (var_on (o := Dl.o ⟨1000001, a0.m, a0.x, a0.y, a0.f0, a0.f1, a0.f2, a0.f3⟩) (g := w4.heap.size) hb (new_at _ _ _ rfl) (by simp))
    replace K1 := hid (var_on hb (old_at K1.out _) (at_lt (old_at K1.out _)))
    replace hB := below_on (hB.alloc (by omega) _) hb
    clear hb c1
    have c1 := cells_at K1.out
    have c2 := cells_at K2.out
    replace l1 := at_lt K1.out
    have l2 := at_lt K2.out
    go_wp2_with fail
    refine (isD_at (d := ⟨1000001, a0.m, a0.x, a0.y, a0.f0, a0.f1, a0.f2, a0.f3⟩) hx im HSX.out _).mono ?_
    rintro x w6 ⟨rfl, hb⟩
    replace K1 := hid (var_on hb K1.out l1)
    replace K2 := hid (var_on hb K2.out l2)
    replace hB := below_on hB hb
    clear hb c1 c2
    have c1 := cells_at K1.out
    have c2 := cells_at K2.out
    replace l1 := at_lt K1.out
    replace l2 := at_lt K2.out
    go_wp2_with fail
    refine (same_at (a := a0) (b := ⟨1000001, a0.m, a0.x, a0.y, a0.f0, a0.f1, a0.f2, a0.f3⟩) hne _).mono ?_
    rintro x w7 ⟨rfl, hb⟩
    replace K1 := hid (var_on hb K1.out l1)
    replace hB := below_on hB hb
    clear hb c1 c2
    have c1 := cells_at K1.out
    replace l1 := at_lt K1.out
    go_wp2_with fail
    refine (refIsD_at hq.out _ im HS.out).mono ?_
    rintro x w8 ⟨rfl, hb⟩
    replace hB := below_on hB hb
    go_wp2_with fail
    go_ret
    exact ⟨rfl, hB⟩

theorem fieldsSpoils_own : ownKnob Try.prog.godebug = none := by kernel_rfl
theorem fieldsSpoils_laidOut : laidOutB Try.prog = true := by kernel_rfl
set_option maxRecDepth 100000 in
theorem fieldsSpoils_lifted (os : Os) (started : os.Started) (H : Type) (enc : TypeId × Value → H) :
    ReturnsInHanded {} Try.checked os 8 .any (Rows.fieldsSpoilsSpec.pre6 enc Try.prog Try.f8 Rows.fieldsSpoilsRow.domain false) (Rows.fieldsSpoilsSpec.post enc Try.prog Try.f8 false true false false) := by
  refine returnsInHanded_of_change (C := Try.checked) fieldsSpoils_own started (by kernel_rfl) Try.func8
    (ChangeSpec.witness6 (enc := enc) (C := Try.checked) false ⟨#[], #[.agg #[.int .i64 0, .int .u8 0, .int .i64 0, .int .i64 0, .int .i64 0, .string ByteArray.empty, .int .i64 0, .string ByteArray.empty, .int .i64 0, .string ByteArray.empty, .int .i64 0, .string ByteArray.empty], .int .u8 0], []⟩ 8 (by kernel_rfl) (by kernel_rfl) (by kernel_rfl) (by kernel_rfl)) ?_
  intro W base args ds gs before hval0 hW hcnd _
  have hval : ∀ (j : Nat) t v, Try.f8.params[j]? = some t → args[j]? = some v → Value.okWide Try.prog W .any base t v := hval0
  have hW' := hW
  obtain ⟨p, q, hA0, hV, rfl, hfz, hnd⟩ := hW
  have hA : DataW.TrodAll enc Try.prog W 0 (fun _ => true) true Try.f8.params.toList args.toList ds p := hA0
  rw [Try.params8] at hA hval
  obtain ⟨v0, vs0, d0, ds0, p0, q0, hargs, rfl, rfl, h0, r0⟩ := trodAll_cons hA
  obtain ⟨v1, vs1, d1, ds1, p1, q1, rfl, rfl, rfl, h1, r1⟩ := trodAll_cons r0
  obtain ⟨rfl, rfl, rfl⟩ := trodAll_nil r1
  obtain rfl : args = #[v0, v1] := by cases args; simp_all
  obtain ⟨rfl, rfl⟩ := trodVars_none hV
  have k0 := h0
  have lt0 : ∀ x ∈ p0, x.block < W.heap.size := by obtain ⟨m, hm⟩ := k0; exact DataW.trod_lt m _ _ _ hm
  have k1 := h1
  have lt1 : ∀ x ∈ p1, x.block < W.heap.size := by obtain ⟨m, hm⟩ := k1; exact DataW.trod_lt m _ _ _ hm
  obtain ⟨a0, rfl, w0⟩ := open_dl (hval 0 30 v0 rfl rfl) h0
  obtain ⟨a1, rfl, rfl, rfl, w1⟩ := open_int Try.underlying5 (hval 1 5 v1 rfl rfl) h1
  clear hA0 hval0
  refine (fieldsSpoils_walk W a0 w0 a1 w1).mono fun e W' ⟨he, bel⟩ => ?_
  subst he
  exact ⟨_, rfl, _, _, _, [], _, [], hW', trodAll_mk1 (shut_bool Try.underlying4 _), (trodAll_cons_mk (Below.trod fieldsSpoils_laidOut (by kernel_rfl) (of_decide_eq_true (by kernel_rfl)) k0 bel lt0) (trodAll_cons_mk (Below.trod fieldsSpoils_laidOut (by kernel_rfl) (of_decide_eq_true (by kernel_rfl)) k1 bel lt1) trodAll_mk0)), rfl, bel.frame _, fun h => by cases h⟩

theorem fieldsSpoils_over : Rows.fieldsSpoilsRow.holds Try.pinned (OpenSpec.ofChange Rows.fieldsSpoilsSpec) :=
  OpenClaim.holds_of_wide 8 Try.f8 rfl rfl rfl rfl rfl rfl rfl ⟨rfl, rfl, rfl, rfl, rfl⟩ rfl rfl rfl rfl rfl (by kernel_rfl) Try.func8 (by kernel_rfl)
    (of_decide_eq_true (by kernel_rfl)) (by unfold Func.isWrapper; first | (rw [if_pos (by decide +kernel)]; kernel_rfl) | (rw [if_neg (by decide +kernel)]; exact ⟨rfl, rfl⟩))
    (fun os started H enc _ => fieldsSpoils_lifted os started H enc)

theorem fieldsSpoils_holds : Rows.FieldsSpoilsSaid := fieldsSpoils_over
#print axioms fieldsSpoils_holds
end Go.Proofs.Ytaokhgbkghbpmaa
