/- For every two numbers, every text and every limit NumTells returns true, and each argument reads behind the call as before it: the program's bytes of numbers and texts, and what it reads of bytes, are the document's. No conditions. -/
import Derived.Test.YtkipjpffilinlaaKnown
import Derived.Test.YtkipjpffilinlaaRef
import Derived.ProofKit
import Derived.OpenShut
import Derived.ShutString
namespace Go.Proofs.Ytkipjpffilinlaa
open Go.ChangeShapes Go.WideShapes Go.ChangeAt Go.RowKit
open Go.ChangeMaps (open_string shut_string)
set_option linter.unusedVariables false

theorem numTells_own : ownKnob Try.prog.godebug = none := by kernel_rfl

theorem ints_eq {s : ByteArray} {n k e : Nat} (h : Hid (get s.data.toList = (n, k, e))) (hs : s.size ≤ maxLen) (w : World) :
    Calls Try.prog 12 #[.string s] w fun x w' => x = .returned (.tuple #[.int .i64 (zag n), .int .i64 k, .int .i64 e]) ∧ w' = w := by
  have := ints12 s hs w
  rw [h.out] at this
  exact this
theorem ints13_eq {s : ByteArray} {n k e : Nat} (h : Hid (get s.data.toList = (n, k, e))) (hs : s.size ≤ maxLen) (w : World) :
    Calls Try.prog 13 #[.string s] w fun x w' => x = .returned (.tuple #[.int .i64 (zag n), .int .i64 k, .int .i64 e]) ∧ w' = w := by
  have := ints13 s hs w
  rw [h.out] at this
  exact this
theorem texts15_eq {s : ByteArray} {most : Int} {t : List UInt8} {k e : Nat} (h : Hid (texts s.data.toList most = (t, k, e))) (hs : s.size ≤ 281474976710656) (hm0 : -9223372036854775808 ≤ most) (hm1 : most ≤ 9223372036854775807) (w : World) :
    Calls Try.prog 15 #[.string s, .int .i64 most] w fun x w' => x = .returned (.tuple #[.string ⟨t.toArray⟩, .int .i64 k, .int .i64 e]) ∧ w' = w := by
  have := texts15 s most hs hm0 hm1 w
  rw [h.out] at this
  exact this
set_option maxRecDepth 100000 in
set_option maxHeartbeats 1000000 in
theorem numTells_walk (a0 : Int) (a1 : Int) (a2 : ByteArray) (a3 : Int) (w0 : (Lit.int .u64 a0).wf = true) (w1 : (Lit.int .i64 a1).wf = true) (w2 : a2.size ≤ maxLen) (w3 : (Lit.int .i64 a3).wf = true) (w : World) :
    Calls Try.prog 3 #[.int .u64 a0, .int .i64 a1, .string a2, .int .i64 a3] w fun e w' => e = .returned (.bool true) ∧ Below w.heap.size w w' := by
  obtain ⟨b0, b1⟩ := bounds_u64 w0
  obtain ⟨c0, c1⟩ := bounds_i64 w1
  obtain ⟨d0, d1⟩ := bounds_i64 w3
  obtain ⟨n, rfl⟩ := Int.eq_ofNat_of_zero_le b0
  have hn : n ≤ 18446744073709551615 := by omega
  clear w0 w1 w3
  unfold maxLen at w2
  by_cases h400 : 400 < a2.size
  · go_enter Try.func3, Try.ntmps3
    go_wp2_with fail
    refine (known9 _).mono ?_
    rintro x w1 ⟨rfl, hb1⟩
    go_wp2
    go_ret
    exact ⟨rfl, hb1⟩
  · rcases hg : get a2.data.toList with ⟨gn, gk, ge⟩
    obtain ⟨hgn, _⟩ := get_ok hg
    have HG : Hid (get a2.data.toList = (gn, gk, ge)) := hg
    clear hg
    rcases ht : texts a2.data.toList a3 with ⟨tt, tk, te⟩
    have HT : Hid (texts a2.data.toList a3 = (tt, tk, te)) := ht
    clear ht
    have hml : a2.size ≤ maxLen := by unfold maxLen; omega
    go_enter Try.func3, Try.ntmps3
    go_wp2_with fail
    refine (known9 _).mono ?_
    rintro x w1 ⟨rfl, hb1⟩
    go_wp2_with fail
    refine (get_eq HG hml _).mono ?_
    rintro x w2 ⟨rfl, rfl⟩
    go_wp2_with fail
    refine (get11_eq HG hml _).mono ?_
    rintro x w3 ⟨rfl, rfl⟩
    go_wp2_with fail
    refine (ints_eq HG hml _).mono ?_
    rintro x w4 ⟨rfl, rfl⟩
    go_wp2_with fail
    refine (ints13_eq HG hml _).mono ?_
    rintro x w5 ⟨rfl, rfl⟩
    go_wp2_with fail
    refine (texts_eq HT (by omega) d0 d1 _).mono ?_
    rintro x w6 ⟨rfl, hb6⟩
    go_wp2_with fail
    refine (texts15_eq HT (by omega) d0 d1 _).mono ?_
    rintro x w7 ⟨rfl, rfl⟩
    go_wp2_with fail
    refine (put_any n hn _).mono ?_
    rintro x w8 ⟨rfl, hb8⟩
    go_wp2_with fail
    refine (put17 n hn _).mono ?_
    rintro x w9 ⟨rfl, hb9⟩
    go_wp2_with fail
    refine (zig18 a1 c0 c1 _).mono ?_
    rintro x w10 ⟨rfl, rfl⟩
    go_wp2_with fail
    refine (zig19 a1 c0 c1 _).mono ?_
    rintro x w11 ⟨rfl, rfl⟩
    go_wp2_with fail
    refine (zag20 n hn _).mono ?_
    rintro x w12 ⟨rfl, rfl⟩
    go_wp2_with fail
    refine (zag21 n hn _).mono ?_
    rintro x w13 ⟨rfl, rfl⟩
    go_wp2_with fail
    refine (int22 a1 c0 c1 _).mono ?_
    rintro x w14 ⟨rfl, hb14⟩
    go_wp2_with fail
    refine (int23 a1 c0 c1 _).mono ?_
    rintro x w15 ⟨rfl, hb15⟩
    go_wp2_with fail
    refine (text24 a2 (by omega) _).mono ?_
    rintro x w16 ⟨rfl, hb16⟩
    go_wp2_with fail
    refine (text25 a2 (by omega) _).mono ?_
    rintro x w17 ⟨rfl, hb17⟩
    go_wp2
    go_ret
    have s1 := hb1.size; have s6 := hb6.size; have s8 := hb8.size; have s9 := hb9.size; have s14 := hb14.size; have s15 := hb15.size; have s16 := hb16.size
    refine ⟨rfl, ?_⟩
    exact ((((((hb1.trans (hb6.mono s1)).trans (hb8.mono (by omega))).trans (hb9.mono (by omega))).trans (hb14.mono (by omega))).trans (hb15.mono (by omega))).trans (hb16.mono (by omega))).trans (hb17.mono (by omega))

set_option maxRecDepth 100000 in
theorem numTells_lifted (os : Os) (started : os.Started) (H : Type) (enc : TypeId × Value → H) :
    ReturnsInHanded {} Try.checked os 3 .any (Rows.numTellsSpec.pre6 enc Try.prog Try.f3 Rows.numTellsRow.domain false) (Rows.numTellsSpec.post enc Try.prog Try.f3 false true false false) := by
  refine returnsInHanded_of_change (C := Try.checked) numTells_own started (by kernel_rfl) Try.func3
    (ChangeSpec.witness6 (enc := enc) (C := Try.checked) false ⟨#[], #[.int .u64 0, .int .i64 0, .string ByteArray.empty, .int .i64 0], []⟩ 8 (by kernel_rfl) (by kernel_rfl) (by kernel_rfl) (by kernel_rfl)) ?_
  intro W base args ds gs before hval0 hW hcnd _
  have hval : ∀ (j : Nat) t v, Try.f3.params[j]? = some t → args[j]? = some v → Value.okWide Try.prog W .any base t v := hval0
  have hW' := hW
  obtain ⟨p, q, hA0, hV, rfl, hfz, hnd⟩ := hW
  have hA : DataW.TrodAll enc Try.prog W 0 (fun _ => true) true Try.f3.params.toList args.toList ds p := hA0
  rw [Try.params3] at hA hval
  obtain ⟨v0, vs0, d0, ds0, p0, q0, hargs, rfl, rfl, h0, r0⟩ := trodAll_cons hA
  obtain ⟨v1, vs1, d1, ds1, p1, q1, rfl, rfl, rfl, h1, r1⟩ := trodAll_cons r0
  obtain ⟨v2, vs2, d2, ds2, p2, q2, rfl, rfl, rfl, h2, r2⟩ := trodAll_cons r1
  obtain ⟨v3, vs3, d3, ds3, p3, q3, rfl, rfl, rfl, h3, r3⟩ := trodAll_cons r2
  obtain ⟨rfl, rfl, rfl⟩ := trodAll_nil r3
  obtain rfl : args = #[v0, v1, v2, v3] := by cases args; simp_all
  obtain ⟨rfl, rfl⟩ := trodVars_none hV
  obtain ⟨a0, rfl, rfl, rfl, w0⟩ := open_int Try.underlying22 (hval 0 22 v0 rfl rfl) h0
  obtain ⟨a1, rfl, rfl, rfl, w1⟩ := open_int Try.underlying2 (hval 1 2 v1 rfl rfl) h1
  obtain ⟨a2, rfl, rfl, rfl, w2⟩ := open_string Try.underlying9 (hval 2 9 v2 rfl rfl) h2
  obtain ⟨a3, rfl, rfl, rfl, w3⟩ := open_int Try.underlying3 (hval 3 3 v3 rfl rfl) h3
  clear hA0 hval0
  refine (numTells_walk a0 a1 a2 a3 w0 w1 w2 w3 W).mono fun e W' ⟨he, bel⟩ => ?_
  subst he
  exact ⟨_, rfl, _, _, _, [], _, [], hW', trodAll_mk1 (shut_bool Try.underlying4 _), (trodAll_cons_mk (shut_int Try.underlying22 w0) (trodAll_cons_mk (shut_int Try.underlying2 w1) (trodAll_cons_mk (shut_string Try.underlying9 w2) (trodAll_cons_mk (shut_int Try.underlying3 w3) trodAll_mk0)))), rfl, bel.frame _, fun h => by cases h⟩

theorem numTells_over : Rows.numTellsRow.holds Try.pinned (OpenSpec.ofChange Rows.numTellsSpec) :=
  OpenClaim.holds_of_wide 3 Try.f3 rfl rfl rfl rfl rfl rfl rfl ⟨rfl, rfl, rfl, rfl, rfl⟩ rfl rfl rfl rfl rfl (by kernel_rfl) Try.func3 (by kernel_rfl)
    (of_decide_eq_true (by kernel_rfl)) (by unfold Func.isWrapper; first | (rw [if_pos (by decide +kernel)]; kernel_rfl) | (rw [if_neg (by decide +kernel)]; exact ⟨rfl, rfl⟩))
    (fun os started H enc _ => numTells_lifted os started H enc)

theorem numTells_holds : Rows.NumTellsSaid := numTells_over
#print axioms numTells_holds
end Go.Proofs.Ytkipjpffilinlaa
