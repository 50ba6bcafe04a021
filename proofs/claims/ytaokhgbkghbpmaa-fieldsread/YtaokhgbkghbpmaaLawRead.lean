/- For every string s: FieldsRead answers true: fields.Read and the document's Read tell the same delta, the same count, the same error of s (strings above 400 bytes are passed over by the statement itself). -/
import Derived.Test.YtaokhgbkghbpmaaKnown6
import Derived.Test.YtaokhgbkghbpmaaFldG
import Derived.ProofKit
import Derived.OpenShut
import Derived.ShutString
import Derived.ChangeOld
import Derived.Below
import Derived.SizedLaws
namespace Go.Proofs.Ytaokhgbkghbpmaa
open Go.ChangeShapes Go.WideShapes Go.ChangeAt Go.RowKit
open Go.ChangeMaps (open_string shut_string)
set_option linter.unusedVariables false

theorem refread_at {s : ByteArray} {d : Dl} {n e : Nat} (h : Hid (read s.data.toList = (d, n, e))) (hs : s.size ≤ 1000000) (w : World) : Calls Try.prog 25 #[.string s] w fun x w' => x = .returned (.tuple #[d.v, .int .i64 n, .int .i64 e]) ∧ Below w.heap.size w w' := by
  have := ref_read w s hs
  rw [h.out] at this
  exact this
theorem read_bounds (l : List UInt8) (d : Dl) (n e : Nat) (h : read l = (d, n, e)) : n ≤ l.length ∧ (e = 0 ∨ e = 10 ∨ e = 11 ∨ e = 13) := by
  rcases hr : readS l 5 with ⟨D, z, x⟩
  obtain ⟨h1, h2, h3, h4⟩ := readS_ok _ _ _ _ _ hr
  by_cases hx : x = 0
  · subst hx
    cases hd : isD D
    · rw [read_bad hr hd] at h; simp only [Prod.mk.injEq] at h; omega
    · rw [read_good hr hd] at h; simp only [Prod.mk.injEq] at h; omega
  · rw [read_err hr hx (by omega)] at h; simp only [Prod.mk.injEq] at h; omega
set_option maxRecDepth 100000 in
set_option maxHeartbeats 1000000 in
theorem fieldsRead_walk (w : World) (a0 : ByteArray) (w0 : a0.size ≤ maxLen) : Calls Try.prog 4 #[.string a0] w fun e w' => e = .returned (.bool true) ∧ Below w.heap.size w w' := by
  unfold maxLen at w0
  go_enter Try.func4, Try.ntmps4
  go_wp2_with fail
  refine (known_holds _).mono ?_
  rintro x w1 ⟨rfl, hb⟩
  have hB : Below w.heap.size w w1 := hb
  clear hb
  by_cases hs : a0.size ≤ 400
  · rcases hr : read a0.data.toList with ⟨D, n, e⟩
    obtain ⟨r1, r2⟩ := read_bounds _ _ _ _ hr
    have HR := hid hr
    have r1 : n ≤ a0.size := r1
    clear hr
    have q := equal_dl_at (a := D) (b := D) (eqD_self D)
    go_wp2_with fail
    refine (read_at HR (by omega) _).mono ?_
    rintro x w2 ⟨rfl, hb⟩
    replace hB := below_on hB hb
    clear hb
    go_wp2_with fail
    refine (refread_at HR (by omega) _).mono ?_
    rintro x w3 ⟨rfl, hb⟩
    have K1 := hid (var_on (o := D.o) (g := w2.heap.size) hb (new_at _ _ _ rfl) (by simp))
    replace hB := below_on (hB.alloc hB.size _) hb
    have c1 := cells_at K1.out
    have l1 := at_lt K1.out
    clear hb
    go_wp2_with fail
    go_ret
    exact ⟨rfl, hB.alloc hB.size _⟩
  · have hs' : 400 < a0.size := by omega
    clear hs
    go_wp2_with fail
    go_ret
    exact ⟨rfl, hB⟩

theorem fieldsRead_own : ownKnob Try.prog.godebug = none := by kernel_rfl
theorem fieldsRead_laidOut : laidOutB Try.prog = true := by kernel_rfl
set_option maxRecDepth 100000 in
theorem fieldsRead_lifted (os : Os) (started : os.Started) (H : Type) (enc : TypeId × Value → H) :
    ReturnsInHanded {} Try.checked os 4 .any (Rows.fieldsReadSpec.pre6 enc Try.prog Try.f4 Rows.fieldsReadRow.domain false) (Rows.fieldsReadSpec.post enc Try.prog Try.f4 false true false false) := by
  refine returnsInHanded_of_change (C := Try.checked) fieldsRead_own started (by kernel_rfl) Try.func4
    (ChangeSpec.witness6 (enc := enc) (C := Try.checked) false ⟨#[], #[.string ByteArray.empty], []⟩ 8 (by kernel_rfl) (by kernel_rfl) (by kernel_rfl) (by kernel_rfl)) ?_
  intro W base args ds gs before hval0 hW hcnd _
  have hval : ∀ (j : Nat) t v, Try.f4.params[j]? = some t → args[j]? = some v → Value.okWide Try.prog W .any base t v := hval0
  have hW' := hW
  obtain ⟨p, q, hA0, hV, rfl, hfz, hnd⟩ := hW
  have hA : DataW.TrodAll enc Try.prog W 0 (fun _ => true) true Try.f4.params.toList args.toList ds p := hA0
  rw [Try.params4] at hA hval
  obtain ⟨v0, vs0, d0, ds0, p0, q0, hargs, rfl, rfl, h0, r0⟩ := trodAll_cons hA
  obtain ⟨rfl, rfl, rfl⟩ := trodAll_nil r0
  obtain rfl : args = #[v0] := by cases args; simp_all
  obtain ⟨rfl, rfl⟩ := trodVars_none hV
  have k0 := h0
  have lt0 : ∀ x ∈ p0, x.block < W.heap.size := by obtain ⟨m, hm⟩ := k0; exact DataW.trod_lt m _ _ _ hm
  obtain ⟨a0, rfl, rfl, rfl, w0⟩ := open_string Try.underlying9 (hval 0 9 v0 rfl rfl) h0
  clear hA0 hval0
  refine (fieldsRead_walk W a0 w0).mono fun e W' ⟨he, bel⟩ => ?_
  subst he
  exact ⟨_, rfl, _, _, _, [], _, [], hW', trodAll_mk1 (shut_bool Try.underlying4 _), (trodAll_cons_mk (Below.trod fieldsRead_laidOut (by kernel_rfl) (of_decide_eq_true (by kernel_rfl)) k0 bel lt0) trodAll_mk0), rfl, bel.frame _, fun h => by cases h⟩

theorem fieldsRead_over : Rows.fieldsReadRow.holds Try.pinned (OpenSpec.ofChange Rows.fieldsReadSpec) :=
  OpenClaim.holds_of_wide 4 Try.f4 rfl rfl rfl rfl rfl rfl rfl ⟨rfl, rfl, rfl, rfl, rfl⟩ rfl rfl rfl rfl rfl (by kernel_rfl) Try.func4 (by kernel_rfl)
    (of_decide_eq_true (by kernel_rfl)) (by unfold Func.isWrapper; first | (rw [if_pos (by decide +kernel)]; kernel_rfl) | (rw [if_neg (by decide +kernel)]; exact ⟨rfl, rfl⟩))
    (fun os started H enc _ => fieldsRead_lifted os started H enc)

theorem fieldsRead_holds : Rows.FieldsReadSaid := fieldsRead_over
#print axioms fieldsRead_holds
end Go.Proofs.Ytaokhgbkghbpmaa
