/- CmdReads: for every command whose texts are not above 40 bytes, every text of at most 300 bytes, and every byte to turn: Read says a command whose bytes are just those at the beginning, or an error and nothing else. No condition beyond the statement's own. -/
import Derived.Test.YtfcofhlcainanaaCmC
import Derived.Test.YtfcofhlcainanaaVRow
import Derived.ProofKit
import Derived.OpenShut
import Derived.ShutString
import Derived.ChangeOld
import Derived.Below
import Derived.SizedLaws
namespace Go.Proofs.Ytfcofhlcainanaa
open Go.ChangeShapes Go.WideShapes Go.ChangeAt Go.RowKit
open Go.ChangeMaps (open_string shut_string)
set_option linter.unusedVariables false

theorem byte_xor (b : UInt8) (n : Nat) (hn : n < 256) : ∃ y : UInt8, bits .xor .u8 (b.toNat : Int) (n : Int) = (y.toNat : Int) := by
  have hx := u8_xor_nat b.toNat n b.toNat_lt hn
  have hl : b.toNat ^^^ n < 256 := Nat.xor_lt_two_pow (n := 8) b.toNat_lt hn
  refine ⟨UInt8.ofNat (b.toNat ^^^ n), ?_⟩
  rw [hx]
  simp [Nat.mod_eq_of_lt hn]
set_option maxRecDepth 100000 in
set_option maxHeartbeats 4000000 in
theorem cmdReads_walk (w : World) (a0 : Cm) (w0 : inC a0) (a1 : Int) (w1 : (Lit.int .u8 a1).wf = true) (a2 : Int) (w2 : (Lit.int .u8 a2).wf = true) (a3 : ByteArray) (w3 : a3.size ≤ maxLen) :
    Calls Try.prog 5 #[a0.v, .int .u8 a1, .int .u8 a2, .string a3] w fun e w' => e = .returned (.bool true) ∧ Below w.heap.size w w' := by
  have hf := in_fit w0
  have hu1 := u8_bounds w1
  have hu2 := u8_bounds w2
  obtain ⟨n1, rfl⟩ := Int.eq_ofNat_of_zero_le hu1.1
  obtain ⟨n2, rfl⟩ := Int.eq_ofNat_of_zero_le hu2.1
  obtain ⟨W, hW⟩ : ∃ W, W = w.alloc a0.o := ⟨_, rfl⟩
  have hE : Below w.heap.size w W := by rw [hW]; exact below1 _ _
  have K1 := hid (show W.heap[w.heap.size]? = some a0.o by rw [hW]; exact new_at _ _ _ rfl)
  obtain ⟨q, hq⟩ : ∃ q, Hid (fewC a0 = q) := ⟨_, rfl⟩
  have C1 := fun w => few_cmd w a0 (fit_sized hf)
  rw [hq.out] at C1
  have l1 : w.heap.size < W.heap.size := at_lt K1.out
  clear w0 w1 w2
  go_enter Try.func5, Try.ntmps5
  go_upto_region 1 with fail
  rw [← hW]
  clear hW
  go_wp2_with fail
  refine (known_holds _).mono ?_
  rintro x W1 ⟨rfl, hb⟩
  replace K1 := hid (var_on hb K1.out l1)
  replace hE := below_on hE hb
  replace l1 := at_lt K1.out
  clear hb
  go_wp2_with (with_reducible refine wpList_load_cm rfl (.tmp 4) rfl rfl K1.out ?_)
  refine (C1 _).mono ?_
  rintro x W2 ⟨rfl, hb⟩
  replace K1 := hid (var_on hb K1.out l1)
  replace hE := below_on hE hb
  replace l1 := at_lt K1.out
  clear hb C1
  cases q
  · go_wp2_with fail
    go_ret
    exact ⟨rfl, hE⟩
  by_cases h300 : 300 < a3.size
  · have h300' : decide ((300 : Int) < (a3.size : Int)) = true := by simp; omega
    go_wp2_with fail
    go_ret
    exact ⟨rfl, hE⟩
  have h300' : decide ((300 : Int) < (a3.size : Int)) = false := by simp; omega
  have R2 := fun w => reads_holds w a3 (by omega)
  cases hi : isC a0
  · have C2 := fun w => bytes_no w a0 (fit_sized hf) hi
    go_wp2_with (with_reducible refine wpList_load_cm rfl (.tmp 4) rfl rfl K1.out ?_)
    refine (C2 _).mono ?_
    rintro x W3 ⟨rfl, hb⟩
    replace hE := below_on hE hb
    clear hb C2 K1 l1
    go_wp2_with fail
    refine (R2 _).mono ?_
    rintro x W4 ⟨rfl, hb⟩
    replace hE := below_on hE hb
    go_wp2_with fail
    go_ret
    exact ⟨rfl, hE⟩
  · obtain ⟨L, hL⟩ : ∃ L, Hid (toldL (partsP a0.kd) a0 = L) := ⟨_, rfl⟩
    have lL : L.length ≤ 288 := by
      rw [← hL.out]
      have := toldL_len a0 _ (isC_iff.1 hi).1
      have := parts_len a0.kd
      omega
    have lL0 : 0 < L.length := by rw [← hL.out]; exact told_pos _
    have C2 := fun w => bytes_yes w a0 hf hi
    rw [hL.out] at C2
    obtain ⟨LL, hLL⟩ : ∃ LL : ByteArray, Hid ((⟨L.toArray⟩ : ByteArray) = LL) := ⟨_, rfl⟩
    have sLL : LL.size = L.length := by rw [← hLL.out]; rfl
    rw [hLL.out] at C2
    obtain ⟨k, hk⟩ : ∃ k, Hid (n1 % L.length = k) := ⟨_, rfl⟩
    have hkl : k < L.length := by rw [← hk.out]; exact Nat.mod_lt _ lL0
    have hmod : ((n1 : Int) % (L.length : Int)) = (k : Int) := by rw [← hk.out]; simp
    obtain ⟨b, hb⟩ : ∃ b, L[k]? = some b := ⟨L[k]'hkl, by simp⟩
    have HBt := hid hb
    obtain ⟨y, hxor⟩ := byte_xor b n2 (by omega)
    obtain ⟨X, hX⟩ : ∃ X, Hid (L.set k y = X) := ⟨_, rfl⟩
    have hXl : X.length = L.length := by rw [← hX.out, List.length_set]
    have R1 := fun w => reads_holds w ⟨X.toArray⟩ (show X.length ≤ 1000000 by omega)
    have j1 : (0 : Int) < (L.length : Int) := by omega
    have j2 : ¬ (L.length : Int) = 0 := by omega
    have j2' : ¬ L = [] := by intro e; rw [e] at lL0; simp at lL0
    have j3 : (k : Int) < (L.length : Int) := by omega
    have j4 : (0 : Int) ≤ (k : Int) := by omega
    clear hb hi
    go_wp2_with (with_reducible refine wpList_load_cm rfl (.tmp 4) rfl rfl K1.out ?_)
    refine (C2 _).mono ?_
    rintro x W3 ⟨rfl, hb⟩
    replace hE := below_on hE hb
    clear hb C2 K1 l1
    obtain ⟨w8, cap, hcv1, hv1, hb4⟩ := bytes_row (P := Try.prog) W3 9 40 5 LL Try.underlying9 Try.underlying40 Try.underlying5
    rw [show LL.data.toList = L by rw [← hLL.out]] at hv1
    have hcell : w8.cell? ⟨W3.heap.size, k, none⟩ = some (.int .u8 b.toNat) := by
      rw [hv1.cell? k (by rw [u8s_length]; exact hkl)]
      simp [u8s, HBt.out]
    have hfro := hv1.frozen k (by rw [u8s_length]; exact hkl)
    have hv2 := hv1.setByte k y
    rw [hX.out] at hv2
    have hE8 := below_on hE hb4
    have hb5 : Below w.heap.size w (w8.setCell ⟨W3.heap.size, k, none⟩ (.int .u8 y.toNat)) := hE8.setCell hE.size _
    have V2 := hid hv2
    have B5 := hid hb5
    clear hv1 hb4 hE hv2 hb5 hE8
    go_upto_region 8 with fail
    go_region
    have hcv2 := V2.out.drew.text (P := Try.prog) (src := 40) (dst := 9) (cap := cap) Try.underlying40 Try.underlying5 Try.underlying9 hXl
    have hE := B5.out.drew
    clear V2 B5 hcell hfro hcv1
    generalize (w8.setCell _ _).drew = W9 at hcv2 hE ⊢
    go_wp2_with fail
    refine (R1 _).mono ?_
    rintro x W10 ⟨rfl, hb⟩
    replace hE := below_on hE hb
    clear hb hcv2 R1
    go_wp2_with fail
    refine (R2 _).mono ?_
    rintro x W11 ⟨rfl, hb⟩
    replace hE := below_on hE hb
    go_wp2_with fail
    go_ret
    exact ⟨rfl, hE⟩

theorem cmdReads_own : ownKnob Try.prog.godebug = none := by kernel_rfl
theorem cmdReads_laidOut : laidOutB Try.prog = true := by kernel_rfl
set_option maxRecDepth 100000 in
theorem cmdReads_lifted (os : Os) (started : os.Started) (H : Type) (enc : TypeId × Value → H) :
    ReturnsInHanded {} Try.checked os 5 .any (Rows.cmdReadsSpec.pre6 enc Try.prog Try.f5 Rows.cmdReadsRow.domain false) (Rows.cmdReadsSpec.post enc Try.prog Try.f5 false true false false) := by
  refine returnsInHanded_of_change (C := Try.checked) cmdReads_own started (by kernel_rfl) Try.func5
    (ChangeSpec.witness6 (enc := enc) (C := Try.checked) false ⟨#[], #[.agg #[.int .i64 0, .int .i64 0, .int .i64 0, .int .i64 0, .int .i64 0, .int .i64 0, .int .i64 0, .string ByteArray.empty, .int .i64 0, .string ByteArray.empty, .int .i64 0, .string ByteArray.empty, .int .i64 0, .string ByteArray.empty, .int .i64 0, .string ByteArray.empty, .int .i64 0, .int .i64 0, .int .i64 0, .int .i64 0, .int .i64 0, .int .i64 0], .int .u8 0, .int .u8 0, .string ByteArray.empty], []⟩ 8 (by kernel_rfl) (by kernel_rfl) (by kernel_rfl) (by kernel_rfl)) ?_
  intro W base args ds gs before hval0 hW hcnd _
  have hval : ∀ (j : Nat) t v, Try.f5.params[j]? = some t → args[j]? = some v → Value.okWide Try.prog W .any base t v := hval0
  have hW' := hW
  obtain ⟨p, q, hA0, hV, rfl, hfz, hnd⟩ := hW
  have hA : DataW.TrodAll enc Try.prog W 0 (fun _ => true) true Try.f5.params.toList args.toList ds p := hA0
  rw [Try.params5] at hA hval
  obtain ⟨v0, vs0, d0, ds0, p0, q0, hargs, rfl, rfl, h0, r0⟩ := trodAll_cons hA
  obtain ⟨v1, vs1, d1, ds1, p1, q1, rfl, rfl, rfl, h1, r1⟩ := trodAll_cons r0
  obtain ⟨v2, vs2, d2, ds2, p2, q2, rfl, rfl, rfl, h2, r2⟩ := trodAll_cons r1
  obtain ⟨v3, vs3, d3, ds3, p3, q3, rfl, rfl, rfl, h3, r3⟩ := trodAll_cons r2
  obtain ⟨rfl, rfl, rfl⟩ := trodAll_nil r3
  obtain rfl : args = #[v0, v1, v2, v3] := by cases args; simp_all
  obtain ⟨rfl, rfl⟩ := trodVars_none hV
  have k0 := h0
  have lt0 : ∀ x ∈ p0, x.block < W.heap.size := by obtain ⟨m, hm⟩ := k0; exact DataW.trod_lt m _ _ _ hm
  have k1 := h1
  have lt1 : ∀ x ∈ p1, x.block < W.heap.size := by obtain ⟨m, hm⟩ := k1; exact DataW.trod_lt m _ _ _ hm
  have k2 := h2
  have lt2 : ∀ x ∈ p2, x.block < W.heap.size := by obtain ⟨m, hm⟩ := k2; exact DataW.trod_lt m _ _ _ hm
  have k3 := h3
  have lt3 : ∀ x ∈ p3, x.block < W.heap.size := by obtain ⟨m, hm⟩ := k3; exact DataW.trod_lt m _ _ _ hm
  obtain ⟨a0, rfl, w0⟩ := open_cm (hval 0 30 v0 rfl rfl) h0
  obtain ⟨a1, rfl, rfl, rfl, w1⟩ := open_int Try.underlying5 (hval 1 5 v1 rfl rfl) h1
  obtain ⟨a2, rfl, rfl, rfl, w2⟩ := open_int Try.underlying5 (hval 2 5 v2 rfl rfl) h2
  obtain ⟨a3, rfl, rfl, rfl, w3⟩ := open_string Try.underlying9 (hval 3 9 v3 rfl rfl) h3
  clear hA0 hval0
  refine (cmdReads_walk W a0 w0 a1 w1 a2 w2 a3 w3).mono fun e W' ⟨he, bel⟩ => ?_
  subst he
  exact ⟨_, rfl, _, _, _, [], _, [], hW', trodAll_mk1 (shut_bool Try.underlying4 _), (trodAll_cons_mk (Below.trod cmdReads_laidOut (by kernel_rfl) (of_decide_eq_true (by kernel_rfl)) k0 bel lt0) (trodAll_cons_mk (Below.trod cmdReads_laidOut (by kernel_rfl) (of_decide_eq_true (by kernel_rfl)) k1 bel lt1) (trodAll_cons_mk (Below.trod cmdReads_laidOut (by kernel_rfl) (of_decide_eq_true (by kernel_rfl)) k2 bel lt2) (trodAll_cons_mk (Below.trod cmdReads_laidOut (by kernel_rfl) (of_decide_eq_true (by kernel_rfl)) k3 bel lt3) trodAll_mk0)))), rfl, bel.frame _, fun h => by cases h⟩

theorem cmdReads_over : Rows.cmdReadsRow.holds Try.pinned (OpenSpec.ofChange Rows.cmdReadsSpec) :=
  OpenClaim.holds_of_wide 5 Try.f5 rfl rfl rfl rfl rfl rfl rfl ⟨rfl, rfl, rfl, rfl, rfl⟩ rfl rfl rfl rfl rfl (by kernel_rfl) Try.func5 (by kernel_rfl)
    (of_decide_eq_true (by kernel_rfl)) (by unfold Func.isWrapper; first | (rw [if_pos (by decide +kernel)]; kernel_rfl) | (rw [if_neg (by decide +kernel)]; exact ⟨rfl, rfl⟩))
    (fun os started H enc _ => cmdReads_lifted os started H enc)

theorem cmdReads_holds : Rows.CmdReadsSaid := cmdReads_over
#print axioms cmdReads_holds
end Go.Proofs.Ytfcofhlcainanaa
