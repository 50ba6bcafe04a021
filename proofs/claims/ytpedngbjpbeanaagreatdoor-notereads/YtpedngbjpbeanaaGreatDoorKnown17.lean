/- The statements' known(): its fixed examples hold. -/
import Derived.Test.YtpedngbjpbeanaaGreatDoorNtG
import Derived.Test.YtpedngbjpbeanaaGreatDoorNtZ
namespace Go.Proofs.YtpedngbjpbeanaaGreatDoor
open Go.RowKit
set_option linter.unusedVariables false
set_option linter.unusedSimpArgs false
set_option maxRecDepth 100000
theorem wpList_load_ntG {ops : Array Oper} {rest : List Oper} {o : Oper} {a : Act} {W : World} {Q : Exit → Act → World → Prop} (hw : Region.wanted o (yielded ops a.tmps) = true) (x : Operand) (ho : o.op = .load 26 x)
    {g : Nat} {c : Nt} {q : Ns} (hx : a.eval x = .pointer (some ⟨g, 0, none⟩)) (h : W.heap[g]? = some (c.o q)) (k : wpList Tryz.prog ops Q rest (a.put o.dst (c.v q)) W) : wpList Tryz.prog ops Q (o :: rest) a W := by
  rw [wpList, if_pos hw]
  exact .inl (wp_load_row _ x ho g hx _ _ _ _ h Tryz.underlying26 rfl Tryz.sizeNt k)
theorem rowT_block {W : World} {g : Nat} {cs : Array Value} {ty : TypeId} {L : List Th} (h : W.heap[g]? = some (.cells cs ty (0, 0))) (hc : cs.toList = flatT L) : RowT W (some ⟨g, 0, none⟩) L := by
  refine .inr ⟨g, 0, rfl, fun k t hk => cellsT_of fun j hj => ?_⟩
  rw [Nat.zero_add, Go.Joins.cell_of_block h, ← flatT_get L k t hk j hj, ← hc]
  simp
def kh : Hd := ⟨1, 0⟩
def kt : Th := ⟨5, 16, 0, zF, zF, zF, zF⟩
def kN : Nt := ⟨1, 3, [], [kh], [kt], []⟩
def kM : Nt := ⟨0, -1, [], [], [], []⟩
def kS (g : Nat) : Ns := ⟨none, 0, some ⟨g, 0, none⟩, 1, some ⟨g + 1, 0, none⟩, 1, none, 0⟩
theorem rowH_block {W : World} {g : Nat} {ty : TypeId} (h : W.heap[g]? = some (.cells #[.int .i64 1, .int .i64 0] ty (0, 0))) : RowG Hd.cs 2 W (some ⟨g, 0, none⟩) [kh] := by
  refine .inr ⟨g, 0, rfl, fun k t hk j u hu => ?_⟩
  match k, hk with
  | 0, hk =>
    cases hk
    rw [Go.Joins.cell_of_block h]
    match j, hu with
    | 0, hu => cases hu; rfl
    | 1, hu => cases hu; rfl
    | j + 2, hu => simp [Hd.cs] at hu
  | k + 1, hk => simp at hk
theorem k_is : isN kN 4 = true ∧ isN kN 2 = true ∧ isN kN 1 = false ∧ isN kM 4 = false := by
  refine ⟨?_, ?_, ?_, ?_⟩ <;> kernel_rfl
theorem k_fit : FitN kN := ⟨fun t ht => by simp [kN] at ht, fun t ht => by
  simp only [kN, List.mem_singleton] at ht
  subst ht
  exact ⟨fit_zF, fit_zF, fit_zF, fit_zF⟩, fun t ht => by simp [kN] at ht⟩
theorem k_len : LowN kN := by refine ⟨?_, ?_, ?_, ?_⟩ <;> simp [kN]
theorem m_fit : FitN kM := ⟨fun t ht => by simp [kM] at ht, fun t ht => by simp [kM] at ht, fun t ht => by simp [kM] at ht⟩
theorem m_len : LowN kM := by refine ⟨?_, ?_, ?_, ?_⟩ <;> simp [kM]
theorem k_bytes : bytesN kN = (wrap (noteB kN), 0) ∧ (noteB kN).length ≤ 40000 := bytes_few k_is.1 (by simp [kN]) (by simp [kN])
theorem m_bytes : bytesN kM = ([], 11) := by unfold bytesN; rw [if_neg (by rw [k_is.2.2.2]; simp)]
theorem k_read : readNt (wrap (noteB kN) ++ [113]) = (kN, (wrap (noteB kN)).length, 0) := readNt_back k_is.1 k_fit k_bytes.2 _
theorem k_none : readNt [] = (zN, 0, 10) := by kernel_rfl
theorem row_zero (W : World) (n : Nt) (h : n.mo = [] ∧ n.ha = [] ∧ n.gi = [] ∧ n.wa = []) (s : Ns) : RowN W s n := ⟨.inl h.1, .inl h.2.1, .inl h.2.2.1, .inl h.2.2.2⟩
theorem wrap_len {l : List UInt8} (h : l.length ≤ 40000) : (wrap l).length ≤ 100000 := by
  have := wrap_length l
  have e : (text l).length = (put l.length).length + l.length := by unfold text; rw [List.length_append]
  have := (put_length l.length).2
  omega
set_option maxHeartbeats 4000000 in
theorem known_holds (w : World) (hM : Masks w) : Calls Tryz.prog 5 #[] w fun e w' => e = .returned (.bool true) ∧ Below w.heap.size w w' := by
  obtain ⟨Q, hQ⟩ : ∃ Q : Ending → World → Prop, Hid ((fun e w' => e = .returned (.bool true) ∧ Below w.heap.size w w') = Q) := ⟨_, rfl⟩
  rw [hQ.out]
  go_enter Tryz.func5, Tryz.ntmps5
  go_upto_region 2 with fail
  generalize hW3 : ((w.alloc _).alloc _).alloc _ = W3
  have hB3 : Below w.heap.size w W3 := by rw [← hW3]; exact (Go.Joins.below_alloc2 _ _ _).alloc (by simp; omega) _
  have HR := hid (show RowN W3 (kS w.heap.size) kN from ⟨.inl rfl, by rw [← hW3]; exact rowH_block (old_at (old_at (new_at _ _ _ rfl) _) _), by rw [← hW3]; exact rowT_block (old_at (new_at _ _ _ (by simp)) _) rfl, .inl rfl⟩)
  have KA := hid (show W3.heap[w.heap.size + 1 + 1]? = some (kN.o (kS w.heap.size)) by rw [← hW3]; exact new_at _ _ _ (by simp))
  clear hW3
  obtain ⟨B, hBq⟩ : ∃ B, Hid (wrap (noteB kN) = B) := ⟨_, rfl⟩
  have hBl : B.length ≤ 100000 := by rw [← hBq.out]; exact wrap_len k_bytes.2
  have hB1 := hid (show bytesN kN = (B, 0) by rw [k_bytes.1, hBq.out])
  have C := note_bytes (hM.below hB3) HR.out k_fit k_len.len hB1
  have HM := hid hM
  clear hM
  go_wp2_with (with_reducible refine wpList_load_nt rfl (.tmp 1) rfl rfl KA.out ?_)
  refine C.mono ?_
  rintro x W4 ⟨rfl, hb⟩
  have hB4 := hid (below_on hB3 hb)
  have HR4 := hid (HR.out.later hb)
  have KA4 := hid (var_on hb KA.out (at_lt KA.out))
  clear hb hB3 HR KA C
  have hr : readNt (⟨B.toArray⟩ ++ ⟨#[113]⟩ : ByteArray).data.toList = (kN, B.length, 0) := by
    have := k_read
    rw [hBq.out] at this
    rw [show (⟨B.toArray⟩ ++ ⟨#[113]⟩ : ByteArray) = ⟨(B ++ [113]).toArray⟩ from ByteArray.mk_append_mk B [113]]
    exact this
  have hs : (⟨B.toArray⟩ ++ ⟨#[113]⟩ : ByteArray).size ≤ 1000000 := by
    rw [show (⟨B.toArray⟩ ++ ⟨#[113]⟩ : ByteArray) = ⟨(B ++ [113]).toArray⟩ from ByteArray.mk_append_mk B [113]]
    show (B ++ [113]).toArray.size ≤ _
    simp
    omega
  have C := note_read (HM.out.below hB4.out) (hid hr) hs
  clear hr hs
  go_wp2_with fail
  refine C.mono ?_
  rintro x W5 ⟨q, rfl, hown, -, -, hb⟩
  have hB5 := hid (below_on hB4.out hb)
  have HR5 := hid (HR4.out.later hb)
  have KA5 := hid (var_on hb KA4.out (at_lt KA4.out))
  have HO5 := hid hown.row
  clear hb hown hB4 HR4 KA4 C
  go_upto_region 4 with fail
  obtain ⟨W6, hW6⟩ : ∃ W6, W6 = W5.alloc (kN.o q) := ⟨_, rfl⟩
  have hb6 : Below W5.heap.size W5 W6 := by rw [hW6]; exact below1 _ _
  have KB6 := hid (show W6.heap[W5.heap.size]? = some (kN.o q) by rw [hW6]; exact new_at _ _ _ rfl)
  have hB6 := hid (below_on hB5.out hb6)
  have HR6 := hid (HR5.out.later hb6)
  have HO6 := hid (HO5.out.later hb6)
  have KA6 := hid (var_on hb6 KA5.out (at_lt KA5.out))
  rw [← hW6]
  obtain ⟨gb, hgb⟩ : ∃ gb, Hid (W5.heap.size = gb) := ⟨_, rfl⟩
  rw [hgb.out] at KB6 ⊢
  clear hW6 hb6 hgb hB5 HR5 HO5 KA5
  have C := note_bytes (n := kM) (s := zS) (HM.out.below hB6.out) (row_zero W6 kM ⟨rfl, rfl, rfl, rfl⟩ zS) m_fit m_len.len (hid m_bytes)
  go_wp2_with fail
  refine C.mono ?_
  rintro x W7 ⟨rfl, hb⟩
  have hB7 := hid (below_on hB6.out hb)
  have HR7 := hid (HR6.out.later hb)
  have HO7 := hid (HO6.out.later hb)
  have KA7 := hid (var_on hb KA6.out (at_lt KA6.out))
  have KB7 := hid (var_on hb KB6.out (at_lt KB6.out))
  clear hb hB6 HR6 HO6 KA6 KB6 C
  have C := note_read (s := ⟨#[]⟩) (HM.out.below hB7.out) (hid (show readNt (⟨#[]⟩ : ByteArray).data.toList = (zN, 0, 10) from k_none)) (by decide)
  go_wp2_with fail
  refine C.mono ?_
  rintro x W8 ⟨q2, rfl, -, -, -, hb⟩
  have hb8 : Below W7.heap.size W7 (W8.alloc (zN.o q2)) := hb.alloc hb.size _
  have hB8 := hid (below_on hB7.out hb8)
  have HR8 := hid (HR7.out.later hb8)
  have HO8 := hid (HO7.out.later hb8)
  have KA8 := hid (var_on hb8 KA7.out (at_lt KA7.out))
  have KB8 := hid (var_on hb8 KB7.out (at_lt KB7.out))
  clear hb hb8 hB7 HR7 HO7 KA7 KB7 C
  go_upto_region 6 with fail
  obtain ⟨W9, hW9⟩ : ∃ W9, W8.alloc (zN.o q2) = W9 := ⟨_, rfl⟩
  rw [hW9] at hB8 HR8 HO8 KA8 KB8
  try rw [hW9]
  clear hW9
  have C := refnote_same (hid (iff_of_true (rfl : true = true) (rfl : kN = kN))) HR8.out HO8.out k_len.len k_len.len
  go_wp2_with (first
    | ((with_reducible refine wpList_load_ntG ?_ (.tmp 1) rfl rfl KA8.out ?_); · rfl)
    | ((with_reducible refine wpList_load_ntG ?_ (.tmp 4) rfl rfl KB8.out ?_); · rfl))
  refine C.mono ?_
  rintro x W10 ⟨rfl, hb⟩
  have hB9 := hid (below_on hB8.out hb)
  have HR9 := hid (HR8.out.later hb)
  have HO9 := hid (HO8.out.later hb)
  have KA9 := hid (var_on hb KA8.out (at_lt KA8.out))
  have KB9 := hid (var_on hb KB8.out (at_lt KB8.out))
  clear hb hB8 HR8 HO8 KA8 KB8 C
  have C := note_is (HM.out.below hB9.out) HR9.out (ask_of k_fit k_len.len) (hid k_is.2.1)
  go_wp2_with (first
    | ((with_reducible refine wpList_load_ntG ?_ (.tmp 1) rfl rfl KA9.out ?_); · rfl)
    | ((with_reducible refine wpList_load_ntG ?_ (.tmp 4) rfl rfl KB9.out ?_); · rfl))
  refine C.mono ?_
  rintro x W11 ⟨rfl, hb⟩
  have hB10 := hid (below_on hB9.out hb)
  have HR10 := hid (HR9.out.later hb)
  have HO10 := hid (HO9.out.later hb)
  have KA10 := hid (var_on hb KA9.out (at_lt KA9.out))
  have KB10 := hid (var_on hb KB9.out (at_lt KB9.out))
  clear hb hB9 HR9 HO9 KA9 KB9 C
  have C := note_is (HM.out.below hB10.out) HR10.out (ask_of k_fit k_len.len) (hid k_is.2.2.1)
  go_wp2_with (first
    | ((with_reducible refine wpList_load_ntG ?_ (.tmp 1) rfl rfl KA10.out ?_); · rfl)
    | ((with_reducible refine wpList_load_ntG ?_ (.tmp 4) rfl rfl KB10.out ?_); · rfl))
  refine C.mono ?_
  rintro x W12 ⟨rfl, hb⟩
  have hB11 := hid (below_on hB10.out hb)
  have HR11 := hid (HR10.out.later hb)
  have HO11 := hid (HO10.out.later hb)
  have KA11 := hid (var_on hb KA10.out (at_lt KA10.out))
  have KB11 := hid (var_on hb KB10.out (at_lt KB10.out))
  clear hb hB10 HR10 HO10 KA10 KB10 C
  have C := note_same (hid (iff_of_true (rfl : true = true) (rfl : kN = kN))) HR11.out HO11.out k_len.len k_len.len
  go_wp2_with (first
    | ((with_reducible refine wpList_load_ntG ?_ (.tmp 1) rfl rfl KA11.out ?_); · rfl)
    | ((with_reducible refine wpList_load_ntG ?_ (.tmp 4) rfl rfl KB11.out ?_); · rfl))
  refine C.mono ?_
  rintro x W13 ⟨rfl, hb⟩
  have hB12 := hid (below_on hB11.out hb)
  clear hb hB11 C
  go_wp2_with fail
  rw [← hQ.out]
  exact ⟨rfl, hB12.out⟩
end Go.Proofs.YtpedngbjpbeanaaGreatDoor
