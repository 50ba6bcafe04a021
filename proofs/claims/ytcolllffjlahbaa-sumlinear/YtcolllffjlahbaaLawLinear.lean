/- For every three texts SumLinear returns true, and each argument reads behind the call as before it: the sum of three texts of one length, bit by bit put together, is that of the three sums. No conditions. -/
import Derived.Test.YtcolllffjlahbaaKnown2
import Derived.Test.YtcolllffjlahbaaSumP2
import Derived.Test.YtcolllffjlahbaaVRow
import Derived.Deep.QuietTactic
import Derived.BigQuiet
import Derived.Deep.RegionWith
import Derived.ProofKit
import Derived.OpenShut
import Derived.ShutString
namespace Go.Proofs.Ytcolllffjlahbaa
open Go.ChangeShapes Go.WideShapes Go.ChangeAt Go.RowKit
open Go.ChangeMaps (open_string shut_string)
set_option linter.unusedVariables false

theorem sumLinear_own : ownKnob Try.prog.godebug = none := by kernel_rfl

theorem below_drewN {B : Nat} {a w : World} (h : Below B a w) (n : Nat) : Below B a (w.drewN n) := by
  induction n with
  | zero => exact h
  | succ n ih => exact ih.drew
theorem run_min_int4i {P : Program} {w : World} (ts : Array TypeId) (t : TypeId) (x y z u : Int) :
    (Builtin.min_ ts t #[.int .i64 x, .int .i64 y, .int .i64 z, .int .i64 u]).run P w = .ok (.int .i64 (if u < (if z < (if y < x then y else x) then z else (if y < x then y else x)) then u else (if z < (if y < x then y else x) then z else (if y < x then y else x)))) w := by
  simp [Builtin.min_, Builtin.min2]
theorem run_min_int4 {P : Program} {w : World} (ts : Array TypeId) (t : TypeId) (a b c d n : Nat) (h : n = min (min (min a b) c) d) :
    (Builtin.min_ ts t #[.int .i64 a, .int .i64 b, .int .i64 c, .int .i64 d]).run P w = .ok (.int .i64 n) w := by
  rw [run_min_int4i]
  congr 2
  rw [h]
  repeat' split
  all_goals omega
theorem mix3_length : ∀ (x y z : List UInt8), x.length = y.length → y.length = z.length → (mix3 x y z).length = x.length
  | [], [], [], _, _ => rfl
  | a :: x, b :: y, c :: z, h1, h2 => by simp [mix3]; exact mix3_length x y z (by simpa using h1) (by simpa using h2)
theorem mix3_get : ∀ (x y z : List UInt8) (j : Nat) (a b c : UInt8), x[j]? = some a → y[j]? = some b → z[j]? = some c → (mix3 x y z)[j]? = some (a ^^^ b ^^^ c)
  | u :: x, v :: y, t :: z, 0, a, b, c, h1, h2, h3 => by simp at h1 h2 h3; subst h1 h2 h3; simp [mix3]
  | u :: x, v :: y, t :: z, j + 1, a, b, c, h1, h2, h3 => by simp at h1 h2 h3; simp [mix3]; exact mix3_get x y z j a b c h1 h2 h3
/-- the row so far: the first k bytes put together, then zeros -/
def part (M : List UInt8) (n k : Nat) : List UInt8 := M.take k ++ List.replicate (n - k) 0
theorem part_length (M : List UInt8) (n k : Nat) (h : M.length = n) (hk : k ≤ n) : (part M n k).length = n := by simp [part]; omega
theorem part_set (M : List UInt8) (n k : Nat) (h : M.length = n) (hk : k < n) (b : UInt8) (hb : M[k]? = some b) : (part M n k).set k b = part M n (k + 1) := by
  unfold part
  rw [List.set_append_right _ _ (by simp; omega)]
  obtain ⟨hlt, e⟩ := List.getElem?_eq_some_iff.1 hb
  rw [List.take_succ_eq_append_getElem hlt, e, show n - k = (n - (k + 1)) + 1 by omega, List.replicate_succ, List.length_take, show k - min k M.length = 0 by omega]
  simp
theorem xor8 (a b : UInt8) : bits .xor .u8 (a.toNat : Int) (b.toNat : Int) = ((a ^^^ b).toNat : Int) := by
  rw [u8_xor_nat _ _ a.toNat_lt b.toNat_lt, UInt8.toNat_xor]
set_option maxRecDepth 100000 in
set_option maxHeartbeats 2000000 in
theorem sumLinear_walk (a0 : ByteArray) (a1 : ByteArray) (a2 : ByteArray) (w0 : a0.size ≤ maxLen) (w1 : a1.size ≤ maxLen) (w2 : a2.size ≤ maxLen) (w : World) :
    Calls Try.prog 5 #[.string a0, .string a1, .string a2] w fun e w' => e = .returned (.bool true) ∧ Below w.heap.size w w' := by
  obtain ⟨i0, hi, hz0, hz1, hz2⟩ := info_parts Try.info5
  obtain ⟨n, hn⟩ : ∃ n : Nat, n = min (min (min a0.size a1.size) a2.size) 100 := ⟨_, rfl⟩
  have hmin : ∀ (ts : Array TypeId) (t : TypeId) (W : World), (Builtin.min_ ts t #[.int .i64 (a0.size : Int), .int .i64 (a1.size : Int), .int .i64 (a2.size : Int), .int .i64 100]).run Try.prog W = .ok (.int .i64 n) W :=
    fun ts t W => run_min_int4 ts t a0.size a1.size a2.size 100 n hn
  have hn0 : n ≤ a0.size := by omega
  have hn1 : n ≤ a1.size := by omega
  have hn2 : n ≤ a2.size := by omega
  have hn3 : n ≤ 100 := by omega
  clear hn
  obtain ⟨M, hM⟩ : ∃ M, M = mix3 (a0.data.toList.take n) (a1.data.toList.take n) (a2.data.toList.take n) := ⟨_, rfl⟩
  have hMl : M.length = n := by rw [hM, mix3_length] <;> simp <;> omega
  have hMg : ∀ k (h0 : k < a0.size) (h1 : k < a1.size) (h2 : k < a2.size), k < n → M[k]? = some (a0[k] ^^^ a1[k] ^^^ a2[k]) := by
    intro k h0 h1 h2 hk
    rw [hM]
    refine mix3_get _ _ _ _ _ _ _ ?_ ?_ ?_ <;> rw [List.getElem?_take, if_pos hk] <;> simp [*] <;> rfl
  go_enter Try.func5, Try.ntmps5
  go_wp2_with fail
  refine (known2 _).mono ?_
  rintro x w3 ⟨rfl, hb1⟩
  have s1 := hb1.size
  obtain ⟨w4, hmk, hv0, hb2⟩ := made_bytes (P := Try.prog) 33 5 i0 Try.underlying33 hi hz0 hz1 hz2 n (by omega) n rfl w3
  have hb4 : Below w.heap.size w w4 := hb1.trans (hb2.mono s1)
  go_wp2_with fail
  go_loopw [9] (fun i wr => ∃ k : Nat, k ≤ n ∧ i = .int .i64 k ∧ VRow wr w3.heap.size (u8s (part M n k)) ∧ Below w.heap.size w wr) (fun i _ => n - (intOf i).toNat)
  case atStart => exact ⟨0, by omega, rfl, by simpa [part] using hv0, hb4⟩
  case round =>
    obtain ⟨k, hk, rfl, hv, hb⟩ := hrel
    by_cases hlt : k < n
    · have h0 : k < a0.size := by omega
      have h1 : k < a1.size := by omega
      have h2 : k < a2.size := by omega
      have hx1 := xor8 a0[k] a1[k]
      have hx2 := xor8 (a0[k] ^^^ a1[k]) a2[k]
      have hg := hMg k h0 h1 h2 hlt
      have hv2 := hv.setByte k (a0[k] ^^^ a1[k] ^^^ a2[k])
      rw [part_set M n k hMl hlt _ hg] at hv2
      obtain ⟨v, hc⟩ : ∃ v, wr.cell? ⟨w3.heap.size, k, none⟩ = some v := ⟨_, hv.byte k (by rw [part_length M n k hMl hk]; exact hlt)⟩
      have hf := hv.frozen k (by rw [u8s_length, part_length M n k hMl hk]; exact hlt)
      clear hMg hg
      go_wp2
      go_region
      go_wp2
      go_roundw
      case rel =>
        refine ⟨k + 1, by omega, by go_num, ?_, ?_⟩
        · first
          | exact hv2.drew
          | (rw [← UInt8.toNat_xor, xor8]; exact hv2.drew)
        · exact (hb.setCell s1 _).drew
      case measure => simp [intOf]; omega
    · obtain rfl : k = n := by omega
      have hpM : part M k k = M := by unfold part; rw [List.take_of_length_le (by omega)]; simp
      rw [hpM] at hv
      have hcvN : ∀ n, (convert 33 9 (.slice (some ⟨w3.heap.size, 0, none⟩) k k)).run Try.prog (wr.drewN n) = .ok (.string ⟨M.toArray⟩) (wr.drewN n) :=
        fun n => (VRow.heap hv (W' := wr.drewN n) (by simp)).text Try.underlying33 Try.underlying5 Try.underlying9 hMl
      obtain ⟨c0, hc0⟩ : ∃ c, c = crc (a0.extract 0 k).data.toList := ⟨_, rfl⟩
      obtain ⟨c1, hc1⟩ : ∃ c, c = crc (a1.extract 0 k).data.toList := ⟨_, rfl⟩
      obtain ⟨c2, hc2⟩ : ∃ c, c = crc (a2.extract 0 k).data.toList := ⟨_, rfl⟩
      obtain ⟨d, hd⟩ : ∃ d, d = crc (⟨M.toArray⟩ : ByteArray).data.toList := ⟨_, rfl⟩
      have hcut : ∀ s : ByteArray, (s.extract 0 k).data.toList = s.data.toList.take k := fun s => by simp [ByteArray.data_extract]
      have hall : d = c0 ^^^ c1 ^^^ c2 := by
        rw [hd, hc0, hc1, hc2, hcut, hcut, hcut, show (⟨M.toArray⟩ : ByteArray).data.toList = M from rfl, hM]
        exact crc_mix _ _ _ (by simp; omega) (by simp; omega)
      have hl0 : c0 < 4294967296 := hc0 ▸ crc_lt _
      have hl1 : c1 < 4294967296 := hc1 ▸ crc_lt _
      have hl2 : c2 < 4294967296 := hc2 ▸ crc_lt _
      have hx1 := xor32 c0 c1 hl0 hl1
      have hx2 := xor32 (c0 ^^^ c1) c2 (xor_lt _ _ hl0 hl1) hl2
      have H0 : Hid (c0 = crc (a0.extract 0 k).data.toList) := hc0
      have H1 : Hid (c1 = crc (a1.extract 0 k).data.toList) := hc1
      have H2 : Hid (c2 = crc (a2.extract 0 k).data.toList) := hc2
      have HD : Hid (d = crc (⟨M.toArray⟩ : ByteArray).data.toList) := hd
      clear hM hc0 hc1 hc2 hd hMg hmin
      go_wp2
      go_quiet (first | (go_at_call_of 12 M; exact Calls.quiet_of_same (of_at (s := ⟨M.toArray⟩) HD (show M.length ≤ _ by omega) _)) | (go_at_call_of 12 a0; exact Calls.quiet_of_same (of_at H0 (by rw [ByteArray.size_extract]; omega) _)) | (go_at_call_of 12 a1; exact Calls.quiet_of_same (of_at H1 (by rw [ByteArray.size_extract]; omega) _)) | (go_at_call_of 12 a2; exact Calls.quiet_of_same (of_at H2 (by rw [ByteArray.size_extract]; omega) _)))
      go_wp2
      go_ret
      exact ⟨rfl, below_drewN hb _⟩

set_option maxRecDepth 100000 in
theorem sumLinear_lifted (os : Os) (started : os.Started) (H : Type) (enc : TypeId × Value → H) :
    ReturnsInHanded {} Try.checked os 5 .any (Rows.sumLinearSpec.pre6 enc Try.prog Try.f5 Rows.sumLinearRow.domain false) (Rows.sumLinearSpec.post enc Try.prog Try.f5 false true false false) := by
  refine returnsInHanded_of_change (C := Try.checked) sumLinear_own started (by kernel_rfl) Try.func5
    (ChangeSpec.witness6 (enc := enc) (C := Try.checked) false ⟨#[], #[.string ByteArray.empty, .string ByteArray.empty, .string ByteArray.empty], []⟩ 8 (by kernel_rfl) (by kernel_rfl) (by kernel_rfl) (by kernel_rfl)) ?_
  intro W base args ds gs before hval0 hW hcnd _
  have hval : ∀ (j : Nat) t v, Try.f5.params[j]? = some t → args[j]? = some v → Value.okWide Try.prog W .any base t v := hval0
  have hW' := hW
  obtain ⟨p, q, hA0, hV, rfl, hfz, hnd⟩ := hW
  have hA : DataW.TrodAll enc Try.prog W 0 (fun _ => true) true Try.f5.params.toList args.toList ds p := hA0
  rw [Try.params5] at hA hval
  obtain ⟨v0, vs0, d0, ds0, p0, q0, hargs, rfl, rfl, h0, r0⟩ := trodAll_cons hA
  obtain ⟨v1, vs1, d1, ds1, p1, q1, rfl, rfl, rfl, h1, r1⟩ := trodAll_cons r0
  obtain ⟨v2, vs2, d2, ds2, p2, q2, rfl, rfl, rfl, h2, r2⟩ := trodAll_cons r1
  obtain ⟨rfl, rfl, rfl⟩ := trodAll_nil r2
  obtain rfl : args = #[v0, v1, v2] := by cases args; simp_all
  obtain ⟨rfl, rfl⟩ := trodVars_none hV
  obtain ⟨a0, rfl, rfl, rfl, w0⟩ := open_string Try.underlying9 (hval 0 9 v0 rfl rfl) h0
  obtain ⟨a1, rfl, rfl, rfl, w1⟩ := open_string Try.underlying9 (hval 1 9 v1 rfl rfl) h1
  obtain ⟨a2, rfl, rfl, rfl, w2⟩ := open_string Try.underlying9 (hval 2 9 v2 rfl rfl) h2
  clear hA0 hval0
  refine (sumLinear_walk a0 a1 a2 w0 w1 w2 W).mono fun e W' ⟨he, bel⟩ => ?_
  subst he
  exact ⟨_, rfl, _, _, _, [], _, [], hW', trodAll_mk1 (shut_bool Try.underlying4 _), (trodAll_cons_mk (shut_string Try.underlying9 w0) (trodAll_cons_mk (shut_string Try.underlying9 w1) (trodAll_cons_mk (shut_string Try.underlying9 w2) trodAll_mk0))), rfl, bel.frame _, fun h => by cases h⟩

theorem sumLinear_over : Rows.sumLinearRow.holds Try.pinned (OpenSpec.ofChange Rows.sumLinearSpec) :=
  OpenClaim.holds_of_wide 5 Try.f5 rfl rfl rfl rfl rfl rfl rfl ⟨rfl, rfl, rfl, rfl, rfl⟩ rfl rfl rfl rfl rfl (by kernel_rfl) Try.func5 (by kernel_rfl)
    (of_decide_eq_true (by kernel_rfl)) (by unfold Func.isWrapper; first | (rw [if_pos (by decide +kernel)]; kernel_rfl) | (rw [if_neg (by decide +kernel)]; exact ⟨rfl, rfl⟩))
    (fun os started H enc _ => sumLinear_lifted os started H enc)

theorem sumLinear_holds : Rows.SumLinearSaid := sumLinear_over
#print axioms sumLinear_holds
end Go.Proofs.Ytcolllffjlahbaa
