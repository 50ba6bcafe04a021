/- MortonOrder holds (tied card): who is less in both is not more woven, halves of halves are halves twice, and weaving keeps what bits do; the package's table of masks starts as the program's text lays it. -/
import Derived.Test.YtlkphkpalckgnaaDoorLaid4
import Derived.Test.YtlkphkpalckgnaaDoorCards
import Derived.Test.YtlkphkpalckgnaaDoorTie
import Derived.SevenTiedAt
import Derived.ProofKit
import Derived.OpenShut
import Derived.ShutString
import Derived.ChangeOld
import Derived.Below
import Derived.SizedLaws
namespace Go.Proofs.YtlkphkpalckgnaaDoor
open Go.ChangeShapes Go.WideShapes Go.ChangeAt Go.RowKit
open Go.ChangeMaps (open_string shut_string)
set_option linter.unusedVariables false

set_option maxRecDepth 100000 in
set_option maxHeartbeats 4000000 in
theorem mortonOrder_walk (w : World) (hL : Masks w) (a0 : Int) (w0 : (Lit.int .u16 a0).wf = true) (a1 : Int) (w1 : (Lit.int .u16 a1).wf = true) (a2 : Int) (w2 : (Lit.int .u16 a2).wf = true) (a3 : Int) (w3 : (Lit.int .u16 a3).wf = true) (a4 : Int) (w4 : (Lit.int .u8 a4).wf = true) (a5 : Int) (w5 : (Lit.int .u8 a5).wf = true) :
    Calls Tryd.prog 5 #[.int .u16 a0, .int .u16 a1, .int .u16 a2, .int .u16 a3, .int .u8 a4, .int .u8 a5] w fun e w' => e = .returned (.bool true) ∧ Below w.heap.size w w' := by
  obtain ⟨x, rfl, hx⟩ := nat_u16 w0
  obtain ⟨y, rfl, hy⟩ := nat_u16 w1
  obtain ⟨z, rfl, hz⟩ := nat_u16 w2
  obtain ⟨u, rfl, hu⟩ := nat_u16 w3
  obtain ⟨n1, rfl, hn1⟩ := nat_u8 w4
  obtain ⟨n2, rfl, hn2⟩ := nat_u8 w5
  clear w0 w1 w2 w3 w4 w5
  have HL : Hid (Masks w) := hL
  clear hL
  obtain ⟨i, hi⟩ : ∃ k : Nat, Hid (k = n1 % 9) := ⟨_, rfl⟩
  obtain ⟨k, hk⟩ : ∃ k : Nat, Hid (k = n2 % 8) := ⟨_, rfl⟩
  have hi8 : i ≤ 8 := by have := hi.out; omega
  have hk7 : k ≤ 7 := by have := hk.out; omega
  have hi0 : (n1 : Int) % 9 = i := by have := hi.out; omega
  have hk0 : (n2 : Int) % 8 = k := by have := hk.out; omega
  obtain ⟨p, hp⟩ : ∃ m, Hid (m = weave x y) := ⟨_, rfl⟩
  obtain ⟨q, hq⟩ : ∃ m, Hid (m = weave z u) := ⟨_, rfl⟩
  have hpl : p < 4294967296 := by rw [hp.out]; exact weave_lt x y
  have hql : q < 4294967296 := by rw [hq.out]; exact weave_lt z u
  obtain ⟨p1, hp1⟩ : ∃ m, Hid (m = p >>> (2 * i)) := ⟨_, rfl⟩
  obtain ⟨p2, hp2⟩ : ∃ m, Hid (m = p1 >>> (2 * k)) := ⟨_, rfl⟩
  have hp1l : p1 < 4294967296 := by rw [hp1.out]; exact shr_lt _ _ _ hpl
  have h1 : Hid (held i = i) := show held i = i by unfold held; omega
  have h2 : Hid (held k = k) := show held k = k by unfold held; omega
  have h3 : Hid (held ((i : Int) + k) = i + k) := show held ((i : Int) + k) = i + k by unfold held; omega
  have C1 : Hid (∀ W, Calls Tryd.prog 12 #[.int .u32 p, .int .i64 i] W fun e w' => e = .returned (.int .u32 p1) ∧ w' = W) := fun W => by
    have := parent_at p hpl i W
    rw [h1.out] at this; rw [hp1.out]; exact this
  have C2 : Hid (∀ W, Calls Tryd.prog 12 #[.int .u32 p1, .int .i64 k] W fun e w' => e = .returned (.int .u32 p2) ∧ w' = W) := fun W => by
    have := parent_at p1 hp1l k W
    rw [h2.out] at this; rw [hp2.out]; exact this
  have C3 : Hid (∀ W, Calls Tryd.prog 12 #[.int .u32 p, .int .i64 ((i : Int) + k)] W fun e w' => e = .returned (.int .u32 p2) ∧ w' = W) := fun W => by
    have := parent_at p hpl ((i : Int) + k) W
    rw [h3.out] at this; rw [hp2.out, hp1.out, ← Nat.shiftRight_add, ← Nat.mul_add]; exact this
  clear h1 h2 h3
  obtain ⟨m, hm⟩ : ∃ m, Hid (m = weave 65535 0) := ⟨_, rfl⟩
  obtain ⟨r, hr⟩ : ∃ m, Hid (m = weave x 0) := ⟨_, rfl⟩
  have ea : bits .and .u32 (p : Int) (m : Int) = r := by
    rw [u32_and_nat _ _ hpl (by rw [hm.out]; exact weave_lt _ _), hp.out, hm.out, hr.out, weave_and x y hx hy]
  have C4 : Hid (∀ W, Masks W → Calls Tryd.prog 9 #[.int .u16 65535, .int .u16 0] W fun e w' => e = .returned (.int .u32 m) ∧ w' = W) := fun W h => by
    rw [hm.out]; exact weave_at 65535 0 (by omega) (by omega) W h
  have C5 : Hid (∀ W, Masks W → Calls Tryd.prog 9 #[.int .u16 x, .int .u16 0] W fun e w' => e = .returned (.int .u32 r) ∧ w' = W) := fun W h => by
    rw [hr.out]; exact weave_at x 0 hx (by omega) W h
  obtain ⟨x1, hx1⟩ : ∃ m, Hid (m = x ^^^ z) := ⟨_, rfl⟩
  obtain ⟨y1, hy1⟩ : ∃ m, Hid (m = y ^^^ u) := ⟨_, rfl⟩
  obtain ⟨t, ht⟩ : ∃ m, Hid (m = weave x1 y1) := ⟨_, rfl⟩
  have hx1l : x1 < 65536 := by rw [hx1.out]; exact Nat.xor_lt_two_pow (n := 16) hx hz
  have hy1l : y1 < 65536 := by rw [hy1.out]; exact Nat.xor_lt_two_pow (n := 16) hy hu
  have ex : bits .xor .u16 (x : Int) (z : Int) = x1 := by rw [u16_xor_nat _ _ hx hz, hx1.out]
  have ey : bits .xor .u16 (y : Int) (u : Int) = y1 := by rw [u16_xor_nat _ _ hy hu, hy1.out]
  have et : bits .xor .u32 (p : Int) (q : Int) = t := by
    rw [u32_xor_nat _ _ hpl hql, hp.out, hq.out, ht.out, hx1.out, hy1.out, weave_xor x y z u hx hy hz hu]
  have hmono : Hid (x ≤ z → y ≤ u → p ≤ q) := fun h1 h2 => by rw [hp.out, hq.out]; exact weave_mono x y z u hz hu h1 h2
  go_enter Tryd.func5, Tryd.ntmps5
  go_wp2_with fail
  go_at_call 6
  refine (known_true _ HL.out).mono ?_
  rintro e w1 ⟨rfl, hb⟩
  have HM : Hid (Masks w1) := HL.out.below hb
  go_wp2_with fail
  go_at_call 9
  refine (weave_at x y hx hy _ HM.out).mono ?_
  rintro e w2 ⟨rfl, rfl⟩
  rw [← hp.out]
  go_wp2_with fail
  go_at_call 9
  refine (weave_at z u hz hu _ HM.out).mono ?_
  rintro e w3 ⟨rfl, rfl⟩
  rw [← hq.out]
  rcases (show z < x ∨ x ≤ z ∧ u < y ∨ x ≤ z ∧ y ≤ u by omega) with g1 | ⟨g1, g2⟩ | ⟨g1, g2⟩
  · have d1 : decide ((z : Int) < x) = true := by simp; omega
    go_wp2_with fail
    go_at_call 11
    refine (less_at p q _).mono ?_
    rintro e v0 ⟨rfl, rfl⟩
    rcases (show p < q ∨ p = q ∨ q < p by omega) with c | c | c
    · have b1 : decide ((p : Int) < q) = true := by simp; omega
      have b3 : ((p : Int) != q) = true := by simp; omega
      have b2 : decide ((q : Int) < p) = false := by simp; omega
      rw [b1]
      go_wp2_with fail
      go_at_call 11
      refine (less_at q p _).mono ?_
      rintro e v00 ⟨rfl, rfl⟩
      rw [b2]
      go_wp2_with fail
      go_at_call 12
      refine (C1.out _).mono ?_
      rintro e v1 ⟨rfl, rfl⟩
      go_wp2_with fail
      go_at_call 12
      refine (C2.out _).mono ?_
      rintro e v2 ⟨rfl, rfl⟩
      go_wp2_with fail
      go_at_call 12
      refine (C3.out _).mono ?_
      rintro e v3 ⟨rfl, rfl⟩
      go_wp2_with fail
      go_at_call 9
      refine (weave_at x y hx hy _ HM.out).mono ?_
      rintro e v4 ⟨rfl, rfl⟩
      rw [← hp.out]
      go_wp2_with fail
      go_at_call 9
      refine (C4.out _ HM.out).mono ?_
      rintro e v5 ⟨rfl, rfl⟩
      go_wp2_with fail
      go_at_call 9
      refine (C5.out _ HM.out).mono ?_
      rintro e v6 ⟨rfl, rfl⟩
      go_wp2_with fail
      go_at_call 9
      refine (weave_at x y hx hy _ HM.out).mono ?_
      rintro e v7 ⟨rfl, rfl⟩
      rw [← hp.out]
      go_wp2_with fail
      go_at_call 9
      refine (weave_at z u hz hu _ HM.out).mono ?_
      rintro e v8 ⟨rfl, rfl⟩
      rw [← hq.out]
      go_wp2_with fail
      go_at_call 9
      refine (weave_at x1 y1 hx1l hy1l _ HM.out).mono ?_
      rintro e v9 ⟨rfl, rfl⟩
      rw [← ht.out]
      go_wp2
      go_ret
      exact ⟨rfl, hb⟩
    · subst c
      have b1 : decide ((p : Int) < p) = false := by simp
      rw [b1]
      go_wp2_with fail
      go_at_call 11
      refine (less_at p p _).mono ?_
      rintro e v00 ⟨rfl, rfl⟩
      rw [b1]
      go_wp2_with fail
      go_at_call 12
      refine (C1.out _).mono ?_
      rintro e v1 ⟨rfl, rfl⟩
      go_wp2_with fail
      go_at_call 12
      refine (C2.out _).mono ?_
      rintro e v2 ⟨rfl, rfl⟩
      go_wp2_with fail
      go_at_call 12
      refine (C3.out _).mono ?_
      rintro e v3 ⟨rfl, rfl⟩
      go_wp2_with fail
      go_at_call 9
      refine (weave_at x y hx hy _ HM.out).mono ?_
      rintro e v4 ⟨rfl, rfl⟩
      rw [← hp.out]
      go_wp2_with fail
      go_at_call 9
      refine (C4.out _ HM.out).mono ?_
      rintro e v5 ⟨rfl, rfl⟩
      go_wp2_with fail
      go_at_call 9
      refine (C5.out _ HM.out).mono ?_
      rintro e v6 ⟨rfl, rfl⟩
      go_wp2_with fail
      go_at_call 9
      refine (weave_at x y hx hy _ HM.out).mono ?_
      rintro e v7 ⟨rfl, rfl⟩
      rw [← hp.out]
      go_wp2_with fail
      go_at_call 9
      refine (weave_at z u hz hu _ HM.out).mono ?_
      rintro e v8 ⟨rfl, rfl⟩
      rw [← hq.out]
      go_wp2_with fail
      go_at_call 9
      refine (weave_at x1 y1 hx1l hy1l _ HM.out).mono ?_
      rintro e v9 ⟨rfl, rfl⟩
      rw [← ht.out]
      go_wp2
      go_ret
      exact ⟨rfl, hb⟩
    · have b1 : decide ((p : Int) < q) = false := by simp; omega
      have b3 : ((p : Int) != q) = true := by simp; omega
      have b2 : decide ((q : Int) < p) = true := by simp; omega
      rw [b1]
      go_wp2_with fail
      go_at_call 11
      refine (less_at q p _).mono ?_
      rintro e v00 ⟨rfl, rfl⟩
      rw [b2]
      go_wp2_with fail
      go_at_call 12
      refine (C1.out _).mono ?_
      rintro e v1 ⟨rfl, rfl⟩
      go_wp2_with fail
      go_at_call 12
      refine (C2.out _).mono ?_
      rintro e v2 ⟨rfl, rfl⟩
      go_wp2_with fail
      go_at_call 12
      refine (C3.out _).mono ?_
      rintro e v3 ⟨rfl, rfl⟩
      go_wp2_with fail
      go_at_call 9
      refine (weave_at x y hx hy _ HM.out).mono ?_
      rintro e v4 ⟨rfl, rfl⟩
      rw [← hp.out]
      go_wp2_with fail
      go_at_call 9
      refine (C4.out _ HM.out).mono ?_
      rintro e v5 ⟨rfl, rfl⟩
      go_wp2_with fail
      go_at_call 9
      refine (C5.out _ HM.out).mono ?_
      rintro e v6 ⟨rfl, rfl⟩
      go_wp2_with fail
      go_at_call 9
      refine (weave_at x y hx hy _ HM.out).mono ?_
      rintro e v7 ⟨rfl, rfl⟩
      rw [← hp.out]
      go_wp2_with fail
      go_at_call 9
      refine (weave_at z u hz hu _ HM.out).mono ?_
      rintro e v8 ⟨rfl, rfl⟩
      rw [← hq.out]
      go_wp2_with fail
      go_at_call 9
      refine (weave_at x1 y1 hx1l hy1l _ HM.out).mono ?_
      rintro e v9 ⟨rfl, rfl⟩
      rw [← ht.out]
      go_wp2
      go_ret
      exact ⟨rfl, hb⟩
  · have d1 : decide ((z : Int) < x) = false := by simp; omega
    have d2 : decide ((u : Int) < y) = true := by simp; omega
    go_wp2_with fail
    go_at_call 11
    refine (less_at p q _).mono ?_
    rintro e v0 ⟨rfl, rfl⟩
    rcases (show p < q ∨ p = q ∨ q < p by omega) with c | c | c
    · have b1 : decide ((p : Int) < q) = true := by simp; omega
      have b3 : ((p : Int) != q) = true := by simp; omega
      have b2 : decide ((q : Int) < p) = false := by simp; omega
      rw [b1]
      go_wp2_with fail
      go_at_call 11
      refine (less_at q p _).mono ?_
      rintro e v00 ⟨rfl, rfl⟩
      rw [b2]
      go_wp2_with fail
      go_at_call 12
      refine (C1.out _).mono ?_
      rintro e v1 ⟨rfl, rfl⟩
      go_wp2_with fail
      go_at_call 12
      refine (C2.out _).mono ?_
      rintro e v2 ⟨rfl, rfl⟩
      go_wp2_with fail
      go_at_call 12
      refine (C3.out _).mono ?_
      rintro e v3 ⟨rfl, rfl⟩
      go_wp2_with fail
      go_at_call 9
      refine (weave_at x y hx hy _ HM.out).mono ?_
      rintro e v4 ⟨rfl, rfl⟩
      rw [← hp.out]
      go_wp2_with fail
      go_at_call 9
      refine (C4.out _ HM.out).mono ?_
      rintro e v5 ⟨rfl, rfl⟩
      go_wp2_with fail
      go_at_call 9
      refine (C5.out _ HM.out).mono ?_
      rintro e v6 ⟨rfl, rfl⟩
      go_wp2_with fail
      go_at_call 9
      refine (weave_at x y hx hy _ HM.out).mono ?_
      rintro e v7 ⟨rfl, rfl⟩
      rw [← hp.out]
      go_wp2_with fail
      go_at_call 9
      refine (weave_at z u hz hu _ HM.out).mono ?_
      rintro e v8 ⟨rfl, rfl⟩
      rw [← hq.out]
      go_wp2_with fail
      go_at_call 9
      refine (weave_at x1 y1 hx1l hy1l _ HM.out).mono ?_
      rintro e v9 ⟨rfl, rfl⟩
      rw [← ht.out]
      go_wp2
      go_ret
      exact ⟨rfl, hb⟩
    · subst c
      have b1 : decide ((p : Int) < p) = false := by simp
      rw [b1]
      go_wp2_with fail
      go_at_call 11
      refine (less_at p p _).mono ?_
      rintro e v00 ⟨rfl, rfl⟩
      rw [b1]
      go_wp2_with fail
      go_at_call 12
      refine (C1.out _).mono ?_
      rintro e v1 ⟨rfl, rfl⟩
      go_wp2_with fail
      go_at_call 12
      refine (C2.out _).mono ?_
      rintro e v2 ⟨rfl, rfl⟩
      go_wp2_with fail
      go_at_call 12
      refine (C3.out _).mono ?_
      rintro e v3 ⟨rfl, rfl⟩
      go_wp2_with fail
      go_at_call 9
      refine (weave_at x y hx hy _ HM.out).mono ?_
      rintro e v4 ⟨rfl, rfl⟩
      rw [← hp.out]
      go_wp2_with fail
      go_at_call 9
      refine (C4.out _ HM.out).mono ?_
      rintro e v5 ⟨rfl, rfl⟩
      go_wp2_with fail
      go_at_call 9
      refine (C5.out _ HM.out).mono ?_
      rintro e v6 ⟨rfl, rfl⟩
      go_wp2_with fail
      go_at_call 9
      refine (weave_at x y hx hy _ HM.out).mono ?_
      rintro e v7 ⟨rfl, rfl⟩
      rw [← hp.out]
      go_wp2_with fail
      go_at_call 9
      refine (weave_at z u hz hu _ HM.out).mono ?_
      rintro e v8 ⟨rfl, rfl⟩
      rw [← hq.out]
      go_wp2_with fail
      go_at_call 9
      refine (weave_at x1 y1 hx1l hy1l _ HM.out).mono ?_
      rintro e v9 ⟨rfl, rfl⟩
      rw [← ht.out]
      go_wp2
      go_ret
      exact ⟨rfl, hb⟩
    · have b1 : decide ((p : Int) < q) = false := by simp; omega
      have b3 : ((p : Int) != q) = true := by simp; omega
      have b2 : decide ((q : Int) < p) = true := by simp; omega
      rw [b1]
      go_wp2_with fail
      go_at_call 11
      refine (less_at q p _).mono ?_
      rintro e v00 ⟨rfl, rfl⟩
      rw [b2]
      go_wp2_with fail
      go_at_call 12
      refine (C1.out _).mono ?_
      rintro e v1 ⟨rfl, rfl⟩
      go_wp2_with fail
      go_at_call 12
      refine (C2.out _).mono ?_
      rintro e v2 ⟨rfl, rfl⟩
      go_wp2_with fail
      go_at_call 12
      refine (C3.out _).mono ?_
      rintro e v3 ⟨rfl, rfl⟩
      go_wp2_with fail
      go_at_call 9
      refine (weave_at x y hx hy _ HM.out).mono ?_
      rintro e v4 ⟨rfl, rfl⟩
      rw [← hp.out]
      go_wp2_with fail
      go_at_call 9
      refine (C4.out _ HM.out).mono ?_
      rintro e v5 ⟨rfl, rfl⟩
      go_wp2_with fail
      go_at_call 9
      refine (C5.out _ HM.out).mono ?_
      rintro e v6 ⟨rfl, rfl⟩
      go_wp2_with fail
      go_at_call 9
      refine (weave_at x y hx hy _ HM.out).mono ?_
      rintro e v7 ⟨rfl, rfl⟩
      rw [← hp.out]
      go_wp2_with fail
      go_at_call 9
      refine (weave_at z u hz hu _ HM.out).mono ?_
      rintro e v8 ⟨rfl, rfl⟩
      rw [← hq.out]
      go_wp2_with fail
      go_at_call 9
      refine (weave_at x1 y1 hx1l hy1l _ HM.out).mono ?_
      rintro e v9 ⟨rfl, rfl⟩
      rw [← ht.out]
      go_wp2
      go_ret
      exact ⟨rfl, hb⟩
  · have d1 : decide ((z : Int) < x) = false := by simp; omega
    have d2 : decide ((u : Int) < y) = false := by simp; omega
    have d3 : decide ((q : Int) < p) = false := by have := hmono.out g1 g2; simp; omega
    go_wp2_with fail
    go_at_call 11
    refine (less_at q p _).mono ?_
    rintro e w4 ⟨rfl, rfl⟩
    rw [d3]
    go_wp2_with fail
    go_at_call 11
    refine (less_at p q _).mono ?_
    rintro e v0 ⟨rfl, rfl⟩
    rcases (show p < q ∨ p = q by have := hmono.out g1 g2; omega) with c | c
    · have b1 : decide ((p : Int) < q) = true := by simp; omega
      have b3 : ((p : Int) != q) = true := by simp; omega
      have b2 : decide ((q : Int) < p) = false := by simp; omega
      rw [b1]
      go_wp2_with fail
      go_at_call 11
      refine (less_at q p _).mono ?_
      rintro e v00 ⟨rfl, rfl⟩
      rw [b2]
      go_wp2_with fail
      go_at_call 12
      refine (C1.out _).mono ?_
      rintro e v1 ⟨rfl, rfl⟩
      go_wp2_with fail
      go_at_call 12
      refine (C2.out _).mono ?_
      rintro e v2 ⟨rfl, rfl⟩
      go_wp2_with fail
      go_at_call 12
      refine (C3.out _).mono ?_
      rintro e v3 ⟨rfl, rfl⟩
      go_wp2_with fail
      go_at_call 9
      refine (weave_at x y hx hy _ HM.out).mono ?_
      rintro e v4 ⟨rfl, rfl⟩
      rw [← hp.out]
      go_wp2_with fail
      go_at_call 9
      refine (C4.out _ HM.out).mono ?_
      rintro e v5 ⟨rfl, rfl⟩
      go_wp2_with fail
      go_at_call 9
      refine (C5.out _ HM.out).mono ?_
      rintro e v6 ⟨rfl, rfl⟩
      go_wp2_with fail
      go_at_call 9
      refine (weave_at x y hx hy _ HM.out).mono ?_
      rintro e v7 ⟨rfl, rfl⟩
      rw [← hp.out]
      go_wp2_with fail
      go_at_call 9
      refine (weave_at z u hz hu _ HM.out).mono ?_
      rintro e v8 ⟨rfl, rfl⟩
      rw [← hq.out]
      go_wp2_with fail
      go_at_call 9
      refine (weave_at x1 y1 hx1l hy1l _ HM.out).mono ?_
      rintro e v9 ⟨rfl, rfl⟩
      rw [← ht.out]
      go_wp2
      go_ret
      exact ⟨rfl, hb⟩
    · subst c
      have b1 : decide ((p : Int) < p) = false := by simp
      rw [b1]
      go_wp2_with fail
      go_at_call 11
      refine (less_at p p _).mono ?_
      rintro e v00 ⟨rfl, rfl⟩
      rw [b1]
      go_wp2_with fail
      go_at_call 12
      refine (C1.out _).mono ?_
      rintro e v1 ⟨rfl, rfl⟩
      go_wp2_with fail
      go_at_call 12
      refine (C2.out _).mono ?_
      rintro e v2 ⟨rfl, rfl⟩
      go_wp2_with fail
      go_at_call 12
      refine (C3.out _).mono ?_
      rintro e v3 ⟨rfl, rfl⟩
      go_wp2_with fail
      go_at_call 9
      refine (weave_at x y hx hy _ HM.out).mono ?_
      rintro e v4 ⟨rfl, rfl⟩
      rw [← hp.out]
      go_wp2_with fail
      go_at_call 9
      refine (C4.out _ HM.out).mono ?_
      rintro e v5 ⟨rfl, rfl⟩
      go_wp2_with fail
      go_at_call 9
      refine (C5.out _ HM.out).mono ?_
      rintro e v6 ⟨rfl, rfl⟩
      go_wp2_with fail
      go_at_call 9
      refine (weave_at x y hx hy _ HM.out).mono ?_
      rintro e v7 ⟨rfl, rfl⟩
      rw [← hp.out]
      go_wp2_with fail
      go_at_call 9
      refine (weave_at z u hz hu _ HM.out).mono ?_
      rintro e v8 ⟨rfl, rfl⟩
      rw [← hq.out]
      go_wp2_with fail
      go_at_call 9
      refine (weave_at x1 y1 hx1l hy1l _ HM.out).mono ?_
      rintro e v9 ⟨rfl, rfl⟩
      rw [← ht.out]
      go_wp2
      go_ret
      exact ⟨rfl, hb⟩

theorem mortonOrder_own : ownKnob Tryd.prog.godebug = none := by kernel_rfl
theorem mortonOrder_laidOut : laidOutB Tryd.prog = true := by kernel_rfl
set_option maxRecDepth 100000 in
theorem mortonOrder_lifted (os : Os) (started : os.Started) (H : Type) (enc : TypeId × Value → H) :
    ReturnsInHanded {} Tryd.checked os 5 .any (fun w args => (Rows.mortonOrderSpec.pre enc Tryd.prog Tryd.f5 [] false w args ∧ laidMetH Tryd.prog laids w) ∧ sizedMet enc Tryd.prog Tryd.f5 (OpenSpec.ofChange Rows.mortonOrderSpec) false w args) (Rows.mortonOrderSpec.post enc Tryd.prog Tryd.f5 false true false false) := by
  refine returnsInHanded_of_change_and (C := Tryd.checked) (X := fun w _ => laidMetH Tryd.prog laids w) (fun _ _ _ hh h => h.of_heap hh) own_knob started (by kernel_rfl) Tryd.func5
    (ChangeSpec.witness_shaped (enc := enc) (C := Tryd.checked) (os := os) (X := fun w _ => laidMetH Tryd.prog laids w) false (World.laidAll Tryd.prog os laids) #[.int .u16 0, .int .u16 0, .int .u16 0, .int .u16 0, .int .u8 0, .int .u8 0] 8 rfl (World.shaped_of_ZipB (by kernel_rfl) (by kernel_rfl)) (by kernel_rfl) (by kernel_rfl) (by kernel_rfl) (door_met os _)) ?_
  intro W base args ds gs before hval0 hW _ _ hL _
  have hval : ∀ (j : Nat) t v, Tryd.f5.params[j]? = some t → args[j]? = some v → Value.okWide Tryd.prog W .any base t v := hval0
  have hW' := hW
  obtain ⟨p, q, hA0, hV, rfl, hfz, hnd⟩ := hW
  have hA : DataW.TrodAll enc Tryd.prog W 0 (fun _ => true) true Tryd.f5.params.toList args.toList ds p := hA0
  rw [Tryd.params5] at hA hval
  obtain ⟨v0, vs0, d0, ds0, p0, q0, hargs, rfl, rfl, h0, r0⟩ := trodAll_cons hA
  obtain ⟨v1, vs1, d1, ds1, p1, q1, rfl, rfl, rfl, h1, r1⟩ := trodAll_cons r0
  obtain ⟨v2, vs2, d2, ds2, p2, q2, rfl, rfl, rfl, h2, r2⟩ := trodAll_cons r1
  obtain ⟨v3, vs3, d3, ds3, p3, q3, rfl, rfl, rfl, h3, r3⟩ := trodAll_cons r2
  obtain ⟨v4, vs4, d4, ds4, p4, q4, rfl, rfl, rfl, h4, r4⟩ := trodAll_cons r3
  obtain ⟨v5, vs5, d5, ds5, p5, q5, rfl, rfl, rfl, h5, r5⟩ := trodAll_cons r4
  obtain ⟨rfl, rfl, rfl⟩ := trodAll_nil r5
  obtain rfl : args = #[v0, v1, v2, v3, v4, v5] := by cases args; simp_all
  obtain ⟨rfl, rfl⟩ := trodVars_none hV
  have k0 := h0
  have lt0 : ∀ x ∈ p0, x.block < W.heap.size := by obtain ⟨m, hm⟩ := k0; exact DataW.trod_lt m _ _ _ hm
  have k1 := h1
  have lt1 : ∀ x ∈ p1, x.block < W.heap.size := by obtain ⟨m, hm⟩ := k1; exact DataW.trod_lt m _ _ _ hm
  have k2 := h2
  have lt2 : ∀ x ∈ p2, x.block < W.heap.size := by obtain ⟨m, hm⟩ := k2; exact DataW.trod_lt m _ _ _ hm
  have k3 := h3
  have lt3 : ∀ x ∈ p3, x.block < W.heap.size := by obtain ⟨m, hm⟩ := k3; exact DataW.trod_lt m _ _ _ hm
  have k4 := h4
  have lt4 : ∀ x ∈ p4, x.block < W.heap.size := by obtain ⟨m, hm⟩ := k4; exact DataW.trod_lt m _ _ _ hm
  have k5 := h5
  have lt5 : ∀ x ∈ p5, x.block < W.heap.size := by obtain ⟨m, hm⟩ := k5; exact DataW.trod_lt m _ _ _ hm
  obtain ⟨a0, rfl, rfl, rfl, w0⟩ := open_int Tryd.underlying22 (hval 0 22 v0 rfl rfl) h0
  obtain ⟨a1, rfl, rfl, rfl, w1⟩ := open_int Tryd.underlying22 (hval 1 22 v1 rfl rfl) h1
  obtain ⟨a2, rfl, rfl, rfl, w2⟩ := open_int Tryd.underlying22 (hval 2 22 v2 rfl rfl) h2
  obtain ⟨a3, rfl, rfl, rfl, w3⟩ := open_int Tryd.underlying22 (hval 3 22 v3 rfl rfl) h3
  obtain ⟨a4, rfl, rfl, rfl, w4⟩ := open_int Tryd.underlying5 (hval 4 5 v4 rfl rfl) h4
  obtain ⟨a5, rfl, rfl, rfl, w5⟩ := open_int Tryd.underlying5 (hval 5 5 v5 rfl rfl) h5
  clear hA0 hval0
  refine (mortonOrder_walk W (of_laid hL) a0 w0 a1 w1 a2 w2 a3 w3 a4 w4 a5 w5).mono fun e W' ⟨he, bel⟩ => ?_
  subst he
  exact ⟨_, rfl, _, _, _, [], _, [], hW', trodAll_mk1 (shut_bool Tryd.underlying4 _), (trodAll_cons_mk (Below.trod mortonOrder_laidOut (by kernel_rfl) (of_decide_eq_true (by kernel_rfl)) k0 bel lt0) (trodAll_cons_mk (Below.trod mortonOrder_laidOut (by kernel_rfl) (of_decide_eq_true (by kernel_rfl)) k1 bel lt1) (trodAll_cons_mk (Below.trod mortonOrder_laidOut (by kernel_rfl) (of_decide_eq_true (by kernel_rfl)) k2 bel lt2) (trodAll_cons_mk (Below.trod mortonOrder_laidOut (by kernel_rfl) (of_decide_eq_true (by kernel_rfl)) k3 bel lt3) (trodAll_cons_mk (Below.trod mortonOrder_laidOut (by kernel_rfl) (of_decide_eq_true (by kernel_rfl)) k4 bel lt4) (trodAll_cons_mk (Below.trod mortonOrder_laidOut (by kernel_rfl) (of_decide_eq_true (by kernel_rfl)) k5 bel lt5) trodAll_mk0)))))), rfl, bel.frame _, fun h => by cases h⟩

theorem mortonOrder_over : Rows.mortonOrderRow.holds Tryd.pinned (OpenSpec.ofChange Rows.mortonOrderSpec) :=
  OpenClaim.holds_of_wide 5 Tryd.f5 rfl rfl rfl rfl rfl rfl rfl ⟨rfl, rfl, rfl, rfl, rfl⟩ rfl rfl rfl rfl rfl (by kernel_rfl) Tryd.func5 (by kernel_rfl)
    (of_decide_eq_true (by kernel_rfl)) (by unfold Func.isWrapper; first | (rw [if_pos (by decide +kernel)]; kernel_rfl) | (rw [if_neg (by decide +kernel)]; exact ⟨rfl, rfl⟩))
    (fun os started H enc _ => mortonOrder_lifted os started H enc)

theorem mortonOrder_holds : Rows.MortonOrderCardSaid :=
  Claim7.holds_tied_plain_at .later [] [.data] true (true, "88b875217eafa84c4995fd83a6614626f72f033578190a24a69d57d35766fa89") false
    mortonOrder_over (fun _ h => by cases h) (by kernel_rfl) (fun _ h => by cases h) mortonOrder_row_tie rfl ⟨rfl, rfl⟩ (by kernel_rfl) rfl
    (fun f fn hf hfn => by
      obtain rfl : f = 5 := Option.some.inj ((show Tryd.prog.funcNamed "vedette/vedettelaw4.MortonOrder" = some 5 by kernel_rfl).symm.trans hf) |>.symm
      obtain rfl : fn = Tryd.f5 := (Option.some.inj (Tryd.func5.symm.trans hfn)).symm
      exact ⟨by kernel_rfl, fun j t ht => by
        rw [Tryd.params5] at ht
        have hm : t ∈ [22, 22, 22, 22, 5, 5] := by simpa using Array.mem_of_getElem? ht
        have hall : ([22, 22, 22, 22, 5, 5].all fun u => !Tryd.prog.wantsStandIn u) = true := by kernel_rfl
        exact (show Tryd.prog.wantsStandIn t = false by simpa using List.all_eq_true.1 hall t hm)⟩)
    (by kernel_rfl)
#print axioms mortonOrder_holds
end Go.Proofs.YtlkphkpalckgnaaDoor
