/- EventSpan: a thing that entered, was changed by each delta of the row and left is gone; entered again it is there; left twice is refused; for every number below 256 and rows of at most 20 bytes (a longer row asks nothing). -/
import Derived.Test.YtkklchobiiajgaaEO
import Derived.ProofKit
import Derived.OpenShut
import Derived.ShutString
import Derived.ChangeOld
import Derived.Below
import Derived.SizedLaws
namespace Go.Proofs.Ytkklchobiiajgaa
open Go.ChangeShapes Go.WideShapes Go.ChangeAt Go.RowKit
open Go.ChangeMaps (open_string shut_string)
set_option linter.unusedVariables false

/-- the row behind a, cell by cell; the empty row wants none -/
def RowIs (w : World) (a : Option Addr) (vs : List Value) : Prop := vs = [] ∨ ∃ b off, a = some ⟨b, off, none⟩ ∧ ∀ i (h : i < vs.length), w.cell? ⟨b, off + i, none⟩ = some vs[i]
def nums (k : IntKind) (xs : List Int) : List Value := xs.map fun n => Value.int k n
def strs' (ts : List ByteArray) : List Value := ts.map fun s => Value.string s
theorem RowIs.later {w wr : World} {a : Option Addr} {vs : List Value} (h : RowIs w a vs) (hb : Below w.heap.size w wr) : RowIs wr a vs := by
  rcases h with h | ⟨b, off, h, hc⟩
  · exact .inl h
  · exact .inr ⟨b, off, h, fun i hi => cell_later hb (hc i hi)⟩
theorem RowIs.at {w : World} {a : Option Addr} {vs : List Value} (h : RowIs w a vs) {i : Nat} {v : Value} (hv : vs[i]? = some v) : ∃ b off, a = some ⟨b, off, none⟩ ∧ w.cell? ⟨b, off + i, none⟩ = some v := by
  obtain ⟨hi, e⟩ := List.getElem?_eq_some_iff.1 hv
  rcases h with h | ⟨b, off, h, hc⟩
  · subst h; simp at hi
  · exact ⟨b, off, h, by rw [hc i hi, e]⟩
theorem row_cells {w : World} {x : Addr} {vs : List Value} (hcell : ∀ i v, vs[i]? = some v → w.cell? (x.add i) = some v) : RowIs w (some x) vs := by
  match vs, hcell with
  | [], _ => exact .inl rfl
  | v :: r, hcell =>
    right
    obtain ⟨b, off, spot⟩ := x
    have hc := hcell 0 v rfl
    have hspot : spot = none := by simpa [Addr.add] using World.cell?_spot hc
    subst hspot
    refine ⟨b, off, rfl, fun i h => ?_⟩
    have e : (⟨b, off, none⟩ : Addr).add i = ⟨b, off + i, none⟩ := by unfold Addr.add; split <;> simp_all
    rw [← e]
    exact hcell i _ (by simp)
theorem row_ints {w : World} {k : IntKind} {x : Addr} {len : Nat} {zs : List Int} (hl : len ≤ zs.length) (hcell : ∀ i, i < zs.length → w.cell? (x.add i) = some (.int k (zs.getD i 0))) (hwz : ∀ n ∈ zs, (Lit.int k n).wf = true) :
    ∃ xs : List Int, xs.length = len ∧ (∀ n ∈ xs, (Lit.int k n).wf = true) ∧ RowIs w (some x) (nums k xs) := by
  refine ⟨zs.take len, by simp; omega, fun n hn => hwz n (List.mem_of_mem_take hn), row_cells fun i v hv => ?_⟩
  unfold nums at hv
  rw [List.getElem?_map, List.getElem?_take] at hv
  split at hv
  · have hi : i < zs.length := by omega
    rw [hcell i hi]
    simpa [hi] using hv
  · simp at hv
theorem row_strs {w : World} {x : Addr} {len : Nat} {ss : List ByteArray} (hl : len ≤ ss.length) (hcell : ∀ i, i < ss.length → w.cell? (x.add i) = some (.string (ss.getD i ByteArray.empty))) (hws : ∀ s ∈ ss, s.size ≤ maxLen) :
    ∃ ts : List ByteArray, ts.length = len ∧ (∀ s ∈ ts, s.size ≤ maxLen) ∧ RowIs w (some x) (strs' ts) := by
  refine ⟨ss.take len, by simp; omega, fun s hs => hws s (List.mem_of_mem_take hs), row_cells fun i v hv => ?_⟩
  unfold strs' at hv
  rw [List.getElem?_map, List.getElem?_take] at hv
  split at hv
  · have hi : i < ss.length := by omega
    rw [hcell i hi]
    simpa [hi] using hv
  · simp at hv
/-- an append onto a row that the call owns, where the elder row stays as it is -/
theorem owns_cut_raw {W : World} {base : Nat} {e : TypeId} {z : Nat} {p : Option Addr} {n m cap : Nat} {xs ys : List Value} (h : W.ownsRow base e z (.slice p (n + m) cap) (n + m) (xs ++ ys)) (hn : xs.length = n * z) (h0 : 0 < n) : W.ownsRow base e z (.slice p n cap) n xs := by
  refine ⟨hn, ?_⟩
  rcases h.2 with ⟨_, h2⟩ | ⟨g, cap', cur, h1, h2, h3, h4, h5, h6, h7⟩
  · omega
  · simp only [Value.slice.injEq] at h1
    obtain ⟨rfl, _, rfl⟩ := h1
    refine .inr ⟨g, cap, cur, rfl, h2, h3, by omega, h5, h6, ?_⟩
    have e1 : cur.toList.take (n * z) = (cur.toList.take ((n + m) * z)).take (n * z) := by
      rw [List.take_take, Nat.min_eq_left (Nat.mul_le_mul_right z (by omega))]
    rw [e1, h7, List.take_append_of_le_length (by omega), List.take_of_length_le (by omega)]
theorem run_append_both {P : Program} (w : World) (t ty : TypeId) (base : Nat) (e : TypeId) (i : TypeInfo) (z : Value) (size bytes : Nat) (ht : P.underlying t = some (.slice e)) (hi : P.info? e = some i) (hz : i.zero = some z)
    (hsize : i.size = size) (hby : i.bytes = bytes) (hzs : z.cells.size = size) (hsz : 0 < size)
    (g n cap : Nat) (xs : List Value) (hown : w.ownsRow base e size (.slice (some ⟨g, 0, none⟩) n cap) n xs) (h0 : 0 < n)
    (a : Addr) (m c : Nat) (news : List Value) (hl : news.length = m * size) (hnews : ∀ j u, news[j]? = some u → w.cell? (a.add j) = some u) (h1 : ∀ u ∈ news, u.oneCell' = true)
    (hm : 0 < m) (h63 : n + m ≤ maxLen) (hbytes : (n + m) * bytes ≤ 140737488355328) (hbase : base ≤ w.heap.size) :
    ∃ g' cap' w', (Builtin.append_ #[t, t] ty #[.slice (some ⟨g, 0, none⟩) n cap, .slice (some a) m c]).run P w = .ok (.slice (some ⟨g', 0, none⟩) (n + m) cap') w' ∧
      w'.ownsRow base e size (.slice (some ⟨g', 0, none⟩) (n + m) cap') (n + m) (xs ++ news) ∧ w'.ownsRow base e size (.slice (some ⟨g, 0, none⟩) n cap) n xs ∧ w.grownBy w' (some g) := by
  by_cases hr : n + m ≤ cap
  · obtain ⟨w', h2, h3, h4⟩ := run_append_fits (P := P) (w := w) base t ty e i size ht hi hsize g n cap xs hown a m c news hl hnews h1 hr
    exact ⟨g, cap, w', h2, h3, owns_cut_raw h3 hown.1 h0, h4⟩
  · obtain ⟨g', cap', w', h2, h3, h4, -, -⟩ := run_append_lies (P := P) w t ty base e i z size bytes ht hi hz hsize hby hzs hsz _ n xs hown a m c news hl hnews h1 hm h63 hbytes hbase _ rfl
    have holds : ∀ j v, xs[j]? = some v → w.cell? ((⟨g, 0, none⟩ : Addr).add j) = some v := fun j v hv => by
      rw [Addr.add_lit, Nat.zero_add]
      exact owns_read hown j v hv
    have h5 := run_append_grow (P := P) w t ty e i z ht hi hz ⟨g, 0, none⟩ n cap xs (by rw [hsize]; exact hown.1) holds a m c news (by rw [hsize]; exact hl) hnews (by omega) (by unfold maxLen at h63; omega) (by rw [hby]; exact growslice_fits (by omega) hbytes)
    rw [h2] at h5
    simp only [Result.ok.injEq] at h5
    have hw : Below w.heap.size w w' := by rw [h5.2]; exact (Below.refl _ w).drew.alloc (Nat.le_refl _) _
    exact ⟨g', cap', w', h2, h3, owns_on hown hw, h4⟩
theorem wpList_append_both {P : Program} (w : World) {ops : Array Oper} {rest : List Oper} {o : Oper} {a : Act} {Q : Exit → Act → World → Prop} (hgd : o.guard = none) (s x : Operand) (t : TypeId)
    (ho : o.op = .call { callee := .builtin .append, args := #[s, x], argTypes := #[t, t] })
    (base : Nat) (e : TypeId) (i : TypeInfo) (z : Value) (size bytes : Nat) (ht : P.underlying t = some (.slice e)) (hi : P.info? e = some i) (hz : i.zero = some z)
    (hsize : i.size = size) (hby : i.bytes = bytes) (hzs : z.cells.size = size) (hsz : 0 < size)
    (g n cap : Nat) (xs : List Value) (hs : a.eval s = .slice (some ⟨g, 0, none⟩) n cap) (hown : w.ownsRow base e size (.slice (some ⟨g, 0, none⟩) n cap) n xs) (h0 : 0 < n)
    (ad : Addr) (m c : Nat) (news : List Value) (hx : a.eval x = .slice (some ad) m c) (hl : news.length = m * size) (hnews : ∀ j u, news[j]? = some u → w.cell? (ad.add j) = some u) (h1 : ∀ u ∈ news, u.oneCell' = true)
    (hm : 0 < m) (h63 : n + m ≤ maxLen) (hbytes : (n + m) * bytes ≤ 140737488355328) (hbase : base ≤ w.heap.size)
    (h : ∀ g' cap' w', w'.ownsRow base e size (.slice (some ⟨g', 0, none⟩) (n + m) cap') (n + m) (xs ++ news) → w'.ownsRow base e size (.slice (some ⟨g, 0, none⟩) n cap) n xs → w.grownBy w' (some g) → wpList P ops Q rest (a.put o.dst (.slice (some ⟨g', 0, none⟩) (n + m) cap')) w') : wpList P ops Q (o :: rest) a w := by
  refine wpList_plain hgd fun K hK => ?_
  obtain ⟨g', cap', w', hr, h2, h3, h4⟩ := run_append_both (P := P) w t o.type base e i z size bytes ht hi hz hsize hby hzs hsz g n cap xs hown h0 ad m c news hl hnews h1 hm h63 hbytes hbase
  unfold Oper.wp execOp
  simp only [ho, resolve, invoke, builtin, Sem.run_bind, Sem.run_pure, Result.andThen_ok, List.map_toArray, List.map_cons, List.map_nil, hs, hx, hr]
  exact hK _ _ (h g' cap' w' h2 h3 h4)
/- the plain story -/
def thK (k x : Int) : Th := ⟨k, x, 0, zF, zF, zF, zF⟩
def enK (k : Int) : Ev := ⟨1, k, thK k 0, zD⟩
def dlK (k x : Int) : Dl := ⟨k, 1, x % 64, 0, zF, zF, zF, zF⟩
def upK (k x : Int) : Ev := ⟨2, k, zT, dlK k x⟩
def lvK (k : Int) : Ev := ⟨3, k, zT, zD⟩
def lastX (x : Int) : List Int → Int
  | [] => x
  | y :: r => lastX (y % 64) r
theorem isF_z : isF zF = true := by decide +kernel
theorem thK_is {k x : Int} (hk : 0 ≤ k ∧ k ≤ 255) (hx : 0 ≤ x ∧ x < 64) : isT (thK k x) = true := by
  have ho : onB x 0 = true := by simp [onB, inB]; omega
  have h1 : decide (0 ≤ k) = true := by simp; omega
  have h2 : decide (k ≤ 1000000) = true := by simp; omega
  rw [isT_eq]
  show (decide (0 ≤ k) && decide (k ≤ 1000000) && onB x 0 && isF zF && isF zF && isF zF && isF zF) = true
  rw [h1, h2, ho, isF_z]
  rfl
theorem enK_is {k : Int} (hk : 0 ≤ k ∧ k ≤ 255) : isE (enK k) = true := by
  unfold enK
  rw [isE_1 rfl, thK_is hk (by omega), Bool.true_and]
  exact eqE_self _
theorem dlK_is {k x : Int} (hk : 0 ≤ k ∧ k ≤ 255) : isD (dlK k x) = true := by
  have h1 : 0 ≤ x % 64 := by omega
  have h2 : x % 64 < 64 := by omega
  rw [isD_eq]
  have t0 : Nat.testBit 1 0 = true := by decide
  have ho : onB (x % 64) 0 = true := by simp [onB, inB]; omega
  have hf : ∀ j, okf (dlK k x) j = true := fun j => by
    have hfz : (dlK k x).f j = zF := by
      match j with
      | 0 => rfl
      | 1 => rfl
      | 2 => rfl
      | j + 3 => rfl
    unfold okf
    rw [hfz, isF_z, eqF_self]
    simp
  rw [hf 0, hf 1, hf 2, hf 3]
  have hk1 : (0 : Int) ≤ k := hk.1
  have hk2 : k ≤ 1000000 := by omega
  simp [dlK, ho, hk1, hk2]
theorem upK_is {k x : Int} (hk : 0 ≤ k ∧ k ≤ 255) : isE (upK k x) = true := by
  unfold upK
  rw [isE_2 rfl, dlK_is hk, Bool.true_and]
  exact eqE_self _
theorem lvK_is {k : Int} (hk : 0 ≤ k ∧ k ≤ 255) : isE (lvK k) = true := by
  unfold lvK
  rw [isE_3 rfl, eqE_self]
  simp
  omega
theorem has_one (k x : Int) : hasT k [thK k x] = true := by simp [hasT, thK]
theorem do_en {k : Int} (hk : 0 ≤ k ∧ k ≤ 255) : doE [] (enK k) = ([thK k 0], true) := by
  rw [doE_1 (enK_is hk) rfl rfl]; rfl
theorem do_up {k x y : Int} (hk : 0 ≤ k ∧ k ≤ 255) : doE [thK k x] (upK k y) = ([thK k (y % 64)], true) := by
  rw [doE_2 (upK_is hk) rfl (has_one k x)]
  have h1 : atT (upK k y).i [thK k x] = thK k x := by simp [atT, findT, upK, thK]
  rw [h1]
  have h2 : apply (thK k x) (upK k y).d = thK k (y % 64) := by
    have t0 : Nat.testBit 1 0 = true := by decide
    have t1 : Nat.testBit 1 1 = false := by decide
    have t2 : Nat.testBit 1 2 = false := by decide
    have t3 : Nat.testBit 1 3 = false := by decide
    have t4 : Nat.testBit 1 4 = false := by decide
    rw [apply5]
    simp only [upK, dlK, thK, t0, t1, t2, t3, t4, cond_true, cond_false]
  rw [h2]
  simp [witT, outT, insT, thK]
theorem do_lv {k x : Int} (hk : 0 ≤ k ∧ k ≤ 255) : doE [thK k x] (lvK k) = ([], true) := by
  rw [doE_3 (lvK_is hk) rfl (has_one k x)]
  simp [outT, lvK, thK]
theorem do_lv0 (k : Int) : doE [] (lvK k) = ([], false) := doE_no rfl
theorem fo_ups {k : Int} (hk : 0 ≤ k ∧ k ≤ 255) (L : List Th) : ∀ (ys : List Int) (x : Int) (r : List Ev), foS L [thK k x] (ys.map (upK k) ++ r) = foS L [thK k (lastX x ys)] r
  | [], x, r => rfl
  | y :: ys, x, r => by
    rw [List.map_cons, List.cons_append, foS, do_up hk]
    simp only [if_true]
    rw [fo_ups hk L ys (y % 64) r, lastX]
def esK (k : Int) (ys : List Int) : List Ev := enK k :: ys.map (upK k)
theorem fo_start {k : Int} (hk : 0 ≤ k ∧ k ≤ 255) (ys : List Int) (r : List Ev) : foE [] (esK k ys ++ r) = foS [] [thK k (lastX 0 ys)] r := by
  unfold foE esK
  rw [List.cons_append, foS, do_en hk]
  simp only [if_true]
  exact fo_ups hk [] ys 0 r
theorem fo_a {k : Int} (hk : 0 ≤ k ∧ k ≤ 255) (ys : List Int) : foE [] (esK k ys) = ([thK k (lastX 0 ys)], true) := by
  have := fo_start hk ys []
  rw [List.append_nil] at this
  rw [this, foS]
theorem fo_b {k : Int} (hk : 0 ≤ k ∧ k ≤ 255) (ys : List Int) : foE [] (esK k ys ++ [lvK k]) = ([], true) := by
  rw [fo_start hk, foS, do_lv hk]
  simp [foS]
theorem fo_c {k : Int} (hk : 0 ≤ k ∧ k ≤ 255) (ys : List Int) : foE [] (esK k ys ++ [lvK k] ++ [enK k]) = ([thK k 0], true) := by
  rw [List.append_assoc, fo_start hk]
  show foS _ _ (lvK k :: [enK k]) = _
  rw [foS, do_lv hk]
  simp only [if_true]
  rw [foS, do_en hk]
  simp [foS]
theorem fo_d {k : Int} (hk : 0 ≤ k ∧ k ≤ 255) (ys : List Int) : foE [] (esK k ys ++ [lvK k] ++ [lvK k]) = ([], false) := by
  rw [List.append_assoc, fo_start hk]
  show foS _ _ (lvK k :: [lvK k]) = _
  rw [foS, do_lv hk]
  simp only [if_true]
  rw [foS, do_lv0]
  simp
theorem inF_z : inF zF := ⟨by decide, by decide, by decide⟩
theorem enK_in (k : Int) : inE (enK k) := ⟨⟨inF_z, inF_z, inF_z, inF_z⟩, inD_z⟩
theorem upK_in (k x : Int) : inE (upK k x) := ⟨inT_z, ⟨by show (1 : Nat) < 256; decide, inF_z, inF_z, inF_z, inF_z⟩⟩
theorem lvK_in (k : Int) : inE (lvK k) := ⟨inT_z, inD_z⟩
theorem esK_in (k : Int) (ys : List Int) : ∀ e ∈ esK k ys, inE e := fun e he => by
  unfold esK at he
  rcases List.mem_cons.1 he with rfl | he
  · exact enK_in k
  · obtain ⟨x, _, rfl⟩ := List.mem_map.1 he
    exact upK_in k x
theorem esK_in1 (k : Int) (ys : List Int) : ∀ e ∈ esK k ys ++ [lvK k], inE e := fun e he => by
  rcases List.mem_append.1 he with he | he
  · exact esK_in k ys e he
  · rw [List.mem_singleton.1 he]; exact lvK_in k
theorem esK_in2 (k : Int) (ys : List Int) (x : Ev) (hx : inE x) : ∀ e ∈ esK k ys ++ [lvK k] ++ [x], inE e := fun e he => by
  rcases List.mem_append.1 he with he | he
  · exact esK_in1 k ys e he
  · rw [List.mem_singleton.1 he]; exact hx
theorem esK_len (k : Int) (ys : List Int) : (esK k ys).length = ys.length + 1 := by simp [esK]
theorem esK_take (k : Int) {ys : List Int} {j : Nat} {y : Int} (h : ys[j]? = some y) : esK k (ys.take (j + 1)) = esK k (ys.take j) ++ [upK k y] := by
  unfold esK
  rw [List.take_add_one, h]
  simp
theorem lastX_last : ∀ (ys : List Int) (x y : Int) (m : Nat), ys.length = m + 1 → ys[m]? = some y → lastX x ys = y % 64
  | [], x, y, m, h, _ => by simp at h
  | a :: r, x, y, 0, h, hy => by
    have hr : r = [] := by cases r; rfl; simp at h
    subst hr
    simp at hy
    subst hy
    rfl
  | a :: r, x, y, m + 1, h, hy => by
    rw [lastX]
    exact lastX_last r (a % 64) y m (by simpa using h) (by simpa using hy)
set_option maxRecDepth 100000 in
set_option maxHeartbeats 8000000 in
theorem eventSpan_walk (w : World) (a0 : Int) (w0 : (Lit.int .u8 a0).wf = true) (a1 : Option Addr) (len1 cap1 : Nat) (ts1 : List Int) (ht1 : ts1.length = len1) (hb1 : ∀ n ∈ ts1, (Lit.int .u8 n).wf = true) (hr1 : RowIs w a1 (nums .u8 ts1)) (hl1 : len1 ≤ maxLen) :
    Calls Try.prog 7 #[.int .u8 a0, .slice a1 len1 cap1] w fun e w' => e = .returned (.bool true) ∧ Below w.heap.size w w' := by
  have hk0 := u8_bounds w0
  have hk : Hid (0 ≤ a0 ∧ a0 ≤ 255) := ⟨hk0.1, by have := hk0.2; omega⟩
  have hl1' : len1 ≤ 9223372036854775807 := by unfold maxLen at hl1; omega
  have HT := hid ht1
  have HB := hid hb1
  have HR := hid hr1
  obtain ⟨k1, k2⟩ := hk0
  clear w0 ht1 hb1 hr1 hl1
  by_cases hlen : len1 ≤ 20
  · have hlen' : (len1 : Int) ≤ 20 := by omega
    obtain ⟨ie, hi, hz0, hz1, hz2⟩ := info_parts3 Try.infoEv
    go_enter Try.func7, Try.ntmps7
    go_wp2_with fail
    refine (known_holds _).mono ?_
    rintro x v1 ⟨rfl, hB1⟩
    go_upto_region 8 with ((with_reducible refine wpList_build_1 (t := thK a0 0) ?_ (.const (.int .i64 1)) (.tmp 27) (.tmp 28) rfl rfl rfl rfl ?_); · rfl)
    generalize hW2 : (v1.alloc _).alloc _ = W2
    have hB2 : Below w.heap.size w W2 := by rw [← hW2]; exact below_on hB1 (Go.Joins.below_alloc2 _ _ _)
    have ho2 : W2.ownsRow w.heap.size 47 25 (.slice (some ⟨v1.heap.size + 1, 0, none⟩) 1 1) 1 (flatE (esK a0 [])) := by
      rw [← hW2]
      have hs := hB1.size
      have := World.ownsRow_lit (base := w.heap.size) (e := 47) (size := 25) (v1.alloc (thK a0 0).o) (enK a0).a 1 (by simp; omega) (by unfold maxLen; omega) rfl
      rw [show (v1.alloc (thK a0 0).o).heap.size = v1.heap.size + 1 by simp] at this
      exact this
    clear hW2 hB1
    go_wp2_with fail
    go_loopw [7, 8] (fun v i wr => ∃ j : Nat, j ≤ len1 ∧ i = .int .i64 j ∧ wr.ownsRow w.heap.size 47 25 v (j + 1) (flatE (esK a0 (ts1.take j))) ∧ Below w.heap.size w wr) (fun _ i _ => len1 - (intOf i).toNat)
    case atStart => exact ⟨0, by omega, rfl, ho2, hB2⟩
    case round =>
      clear ho2 hB2
      obtain ⟨j, hj, rfl, ho, hb⟩ := hrel
      have hs := hb.size
      obtain ⟨p, c, rfl⟩ := owns_slice ho
      obtain ⟨g, rfl, hg1, hg2, hg3, hg4⟩ := owns_some ho (by omega)
      by_cases hlt : j < len1
      · have hlt' : (j : Int) < (len1 : Int) := by omega
        obtain ⟨y, hy⟩ := get_some ts1 j (by rw [HT.out]; exact hlt)
        obtain ⟨y1, y2⟩ := u8_bounds (HB.out y (List.mem_of_getElem? hy))
        obtain ⟨b, off, rfl, hcell⟩ := (HR.out.later hb).at (i := j) (v := .int .u8 y) (by unfold nums; rw [List.getElem?_map, hy]; rfl)
        have HY := hid hy
        clear hy
        go_wp2_with (first
          | ((with_reducible refine wpList_build_2 (t := dlK a0 y) ?_ (.const (.int .i64 2)) (.tmp 38) (.tmp 47) rfl rfl rfl rfl ?_); · rfl)
          | (at_builtin; refine wpList_append_lies _ rfl _ _ 23 rfl w.heap.size 47 ie zE.v 25 264 Try.underlying23 hi hz0 hz1 hz2 rfl (by decide) _ _ _ rfl (ho.alloc _) ⟨wr.heap.size, 0, none⟩ 1 1 (upK a0 y).cs rfl rfl (World.news_of_block (heap_alloc_new _ _)) (evs_cell _) (by decide) (by unfold maxLen; omega) (by omega) (by simp; omega) (wr.heap.size + 1) (by simp) ?_; intro g5 cap5 W5 hown5 hgrow5 hat5 hg5))
        go_roundw
        case rel =>
          refine ⟨j + 1, by omega, by go_num, ?_, (hb.alloc hs _).grown hgrow5 (by simp; omega) (fun k hk => (ho.lt k hk).1)⟩
          rw [esK_take a0 HY.out, flatE_append, flatE_one]
          exact hown5
        case measure => simp [intOf]; omega
      · obtain rfl : j = len1 := by omega
        have hlt' : ¬ (j : Int) < (j : Int) := by omega
        rw [List.take_of_length_le (by rw [HT.out]; exact Nat.le_refl _)] at ho
        obtain ⟨N, hN⟩ : ∃ N, Hid (j = N) := ⟨_, rfl⟩
        have HT := hid (HT.out.trans hN.out)
        rw [hN.out] at ho hlen ⊢
        have hlenN : (N : Int) ≤ 20 := by omega
        have hE0 := hid (show (esK a0 ts1).length = N + 1 by rw [esK_len, HT.out])
        clear hlt hlt' hj hlen' hl1'
        clear hN
        go_wp2_with fail
        refine (event_fold (p := none) (cap := 0) (show Hid (foE [] (esK a0 ts1) = ([thK a0 (lastX 0 ts1)], true)) from fo_a hk.out ts1) (.inl rfl) rise_nil (show Hid (([] : List Th).length = 0) from rfl) (by decide) (rowE_own ho hE0.out.symm) hE0 (by omega) (esK_in a0 ts1) (show Hid ([thK a0 (lastX 0 ts1)].length = 1) from rfl)).mono ?_
        rintro x wA ⟨pA, cA, rfl, hoA, hbA⟩
        have ho3 := owns_on ho hbA
        have hB3 := below_on hb hbA
        clear ho hb hbA
        by_cases hz : N = 0
        · have hV : lastX 0 ts1 = 0 := by
            have := List.length_eq_zero_iff.1 (HT.out.trans hz)
            rw [this]; rfl
          have hpos0 : ¬ (0 : Int) < (N : Int) := by omega
          clear hz
          have hV := hV
          have hsA := hB3.size
          have hneA : (Value.slice pA 1 cA).ownBlock ≠ some g := fun e => by have := (hoA.lt _ e).1; omega
          rw [hV] at hoA
          go_wp2_with (first
            | ((with_reducible refine wpList_build_3 ?_ (.const (.int .i64 3)) (.tmp 68) rfl rfl rfl ?_); · rfl)
            | (at_builtin; refine wpList_append_lies _ rfl _ _ 23 rfl w.heap.size 47 ie zE.v 25 264 Try.underlying23 hi hz0 hz1 hz2 rfl (by decide) _ _ _ rfl (ho3.alloc _) ⟨wA.heap.size, 0, none⟩ 1 1 (lvK a0).cs rfl rfl (World.news_of_block (heap_alloc_new _ _)) (evs_cell _) (by decide) (by unfold maxLen; omega) (by omega) (by simp; omega) (wA.heap.size + 1) (by simp) ?_; intro g5 cap5 W5 hown5 hgrow5 hat5 hg5))
          have hB5 : Below w.heap.size w W5 := (hB3.alloc hsA _).grown hgrow5 (by simp; omega) (fun k hk => (ho3.lt k hk).1)
          have hoA5 := (hoA.alloc _).kept hgrow5 (.inr hneA)
          have hneA5 : (Value.slice pA 1 cA).ownBlock ≠ some g5 := fun e => by
            rcases hat5 with h | h
            · have h' : some g = some g5 := h
              exact hneA (by rw [h']; exact e)
            · have := (hoA.lt _ e).2; omega
          rw [← flatE_one, ← flatE_append] at hown5
          obtain ⟨n2, hn2⟩ : ∃ n2, Hid (N + 1 + 1 = n2) := ⟨_, rfl⟩
          rw [hn2.out] at hown5 ⊢
          have hE1 := hid (show (esK a0 ts1 ++ [lvK a0]).length = n2 by rw [List.length_append, hE0.out, ← hn2.out]; rfl)
          obtain ⟨m2, hm2⟩ : ∃ m2 : Nat, Hid (n2 = m2 + 1) := ⟨N + 1, hn2.out.symm⟩
          have n2l : n2 ≤ 22 := by rw [← hn2.out]; omega
          have n2p : 2 ≤ n2 := by rw [← hn2.out]; omega
          have hlast := hid (show (esK a0 ts1 ++ [lvK a0])[m2]? = some (lvK a0) by
            rw [List.getElem?_append_right (by rw [hE0.out]; have := hm2.out; have := hn2.out; omega), hE0.out]
            rw [show m2 - (N + 1) = 0 by have := hm2.out; have := hn2.out; omega]
            rfl)
          clear ho3 hB3 hoA hgrow5 hat5 hg5 hneA hsA hV hn2
          refine (event_fold (p := none) (cap := 0) (show Hid (foE [] (esK a0 ts1 ++ [lvK a0]) = ([], true)) from fo_b hk.out ts1) (.inl rfl) rise_nil (show Hid (([] : List Th).length = 0) from rfl) (by decide) (rowE_own hown5 hE1.out.symm) hE1 (by omega) (esK_in1 a0 ts1) (show Hid (([] : List Th).length = 0) from rfl)).mono ?_
          rintro x w6 ⟨p6, c6, rfl, -, hb6⟩
          have hB6 := below_on hB5 hb6
          have ho6 := owns_on hown5 hb6
          have hoA6 := owns_on hoA5 hb6
          have hs6 := hB6.size
          clear hb6 hB5 hown5 hoA5
          have hfirst : w6.rangeAt g5 0 (enK a0).cs := by
            rcases rowE_own ho6 hE1.out.symm with h | ⟨b, off, h, hc⟩
            · have := hE1.out; rw [h] at this; simp at this; omega
            · simp only [Option.some.injEq, Addr.mk.injEq, and_true] at h
              obtain ⟨rfl, rfl⟩ := h
              have := hc 0 (enK a0) rfl
              rwa [Nat.zero_mul, Nat.add_zero] at this
          have hpos : (0 : Int) < (n2 : Int) := by omega
          go_wp2_with (first
            | ((with_reducible refine wpList_load_mid_ev rfl (.tmp 80) rfl rfl hfirst ?_))
            | (at_builtin; refine wpList_append_both _ rfl _ _ 23 rfl w.heap.size 47 ie zE.v 25 264 Try.underlying23 hi hz0 hz1 hz2 rfl (by decide) _ _ _ _ rfl (ho6.alloc _) (by omega) ⟨w6.heap.size, 0, none⟩ 1 1 (enK a0).cs rfl rfl (World.news_of_block (heap_alloc_new _ _)) (evs_cell _) (by decide) (by unfold maxLen; omega) (by omega) (by simp; omega) ?_; intro g7 cap7 W7 hown7 hold7 hgrow7))
          have hB7 : Below w.heap.size w W7 := (hB6.alloc hs6 _).grown hgrow7 (by simp; omega) (fun k hk => (ho6.lt k hk).1)
          have hoA7 := (hoA6.alloc _).kept hgrow7 (.inr hneA5)
          rw [← flatE_one, ← flatE_append] at hown7
          clear ho6 hB6 hoA6 hgrow7 hfirst hs6
          refine (event_fold (p := none) (cap := 0) (show Hid (foE [] (esK a0 ts1 ++ [lvK a0] ++ [enK a0]) = ([thK a0 0], true)) from fo_c hk.out ts1) (.inl rfl) rise_nil (show Hid (([] : List Th).length = 0) from rfl) (by decide) (rowE_own hown7 (by rw [List.length_append, hE1.out]; rfl)) (show Hid ((esK a0 ts1 ++ [lvK a0] ++ [enK a0]).length = n2 + 1) from by show _ = _; rw [List.length_append, hE1.out]; rfl) (by omega) (esK_in2 a0 ts1 _ (enK_in a0)) (show Hid ([thK a0 0].length = 1) from rfl)).mono ?_
          rintro x w8 ⟨p8, c8, rfl, -, hb8⟩
          have hB8 := below_on hB7 hb8
          have ho8 := owns_on hold7 hb8
          have hoA8 := owns_on hoA7 hb8
          have hs8 := hB8.size
          clear hb8 hB7 hold7 hown7 hoA7
          have hrl : w8.rangeAt g5 (m2 * 25) (lvK a0).cs := by
            rcases rowE_own ho8 hE1.out.symm with h | ⟨b, off, h, hc⟩
            · have := hE1.out; rw [h] at this; simp at this; omega
            · simp only [Option.some.injEq, Addr.mk.injEq, and_true] at h
              obtain ⟨rfl, rfl⟩ := h
              have := hc m2 (lvK a0) hlast.out
              rwa [Nat.zero_add] at this
          have hml : (m2 : Int) < (n2 : Int) := by have := hm2.out; omega
          have hmi : (n2 : Int) - 1 = (m2 : Int) := by have := hm2.out; omega
          go_wp2_with (first
            | ((with_reducible refine wpList_load_mid_ev rfl (.tmp 93) rfl rfl hrl ?_))
            | (at_builtin; refine wpList_append_lies _ rfl _ _ 23 rfl w.heap.size 47 ie zE.v 25 264 Try.underlying23 hi hz0 hz1 hz2 rfl (by decide) _ _ _ rfl (ho8.alloc _) ⟨w8.heap.size, 0, none⟩ 1 1 (lvK a0).cs rfl rfl (World.news_of_block (heap_alloc_new _ _)) (evs_cell _) (by decide) (by unfold maxLen; omega) (by omega) (by simp; omega) (w8.heap.size + 1) (by simp) ?_; intro g9 cap9 W9 hown9 hgrow9 hat9 hg9))
          have hB9 : Below w.heap.size w W9 := (hB8.alloc hs8 _).grown hgrow9 (by simp; omega) (fun k hk => (ho8.lt k hk).1)
          have hoA9 := (hoA8.alloc _).kept hgrow9 (.inr hneA5)
          rw [← flatE_one, ← flatE_append] at hown9
          clear ho8 hB8 hoA8 hgrow9 hat9 hg9 hrl hs8 hmi hml
          refine (event_fold (p := none) (cap := 0) (show Hid (foE [] (esK a0 ts1 ++ [lvK a0] ++ [lvK a0]) = ([], false)) from fo_d hk.out ts1) (.inl rfl) rise_nil (show Hid (([] : List Th).length = 0) from rfl) (by decide) (rowE_own hown9 (by rw [List.length_append, hE1.out]; rfl)) (show Hid ((esK a0 ts1 ++ [lvK a0] ++ [lvK a0]).length = n2 + 1) from by show _ = _; rw [List.length_append, hE1.out]; rfl) (by omega) (esK_in2 a0 ts1 _ (lvK_in a0)) (show Hid (([] : List Th).length = 0) from rfl)).mono ?_
          rintro x w10 ⟨p10, c10, rfl, -, hb10⟩
          have hB10 := below_on hB9 hb10
          have hoA10 := owns_on hoA9 hb10
          clear hb10 hB9 hown9 hoA9
          obtain ⟨gA, rfl, -, -, -, -⟩ := owns_some hoA10 (by decide)
          have hx : w10.cell? ⟨gA, 1, none⟩ = some (.int .i64 (0)) := by
            rw [hoA10.cellAt 1 (by decide)]
            rfl
          clear hoA10
          go_wp2_with fail
          go_ret
          exact ⟨rfl, hB10⟩
        · obtain ⟨M, hM⟩ : ∃ M, N = M + 1 := ⟨N - 1, by omega⟩
          obtain ⟨y, hy⟩ := get_some ts1 M (by rw [HT.out]; omega)
          obtain ⟨y1, y2⟩ := u8_bounds (HB.out y (List.mem_of_getElem? hy))
          have hV : lastX 0 ts1 = y % 64 := lastX_last ts1 0 y M (by rw [HT.out, hM]) hy
          obtain ⟨b, off, rfl, hcell⟩ := (HR.out.later hB3).at (i := M) (v := .int .u8 y) (by unfold nums; rw [List.getElem?_map, hy]; rfl)
          have hpos0 : (0 : Int) < (N : Int) := by omega
          have hMi : (N : Int) - 1 = (M : Int) := by omega
          have hMl : (M : Int) < (N : Int) := by omega
          clear hy hM hz
          have hV := hV
          have hsA := hB3.size
          have hneA : (Value.slice pA 1 cA).ownBlock ≠ some g := fun e => by have := (hoA.lt _ e).1; omega
          rw [hV] at hoA
          go_wp2_with (first
            | ((with_reducible refine wpList_build_3 ?_ (.const (.int .i64 3)) (.tmp 68) rfl rfl rfl ?_); · rfl)
            | (at_builtin; refine wpList_append_lies _ rfl _ _ 23 rfl w.heap.size 47 ie zE.v 25 264 Try.underlying23 hi hz0 hz1 hz2 rfl (by decide) _ _ _ rfl (ho3.alloc _) ⟨wA.heap.size, 0, none⟩ 1 1 (lvK a0).cs rfl rfl (World.news_of_block (heap_alloc_new _ _)) (evs_cell _) (by decide) (by unfold maxLen; omega) (by omega) (by simp; omega) (wA.heap.size + 1) (by simp) ?_; intro g5 cap5 W5 hown5 hgrow5 hat5 hg5))
          have hB5 : Below w.heap.size w W5 := (hB3.alloc hsA _).grown hgrow5 (by simp; omega) (fun k hk => (ho3.lt k hk).1)
          have hoA5 := (hoA.alloc _).kept hgrow5 (.inr hneA)
          have hneA5 : (Value.slice pA 1 cA).ownBlock ≠ some g5 := fun e => by
            rcases hat5 with h | h
            · have h' : some g = some g5 := h
              exact hneA (by rw [h']; exact e)
            · have := (hoA.lt _ e).2; omega
          rw [← flatE_one, ← flatE_append] at hown5
          obtain ⟨n2, hn2⟩ : ∃ n2, Hid (N + 1 + 1 = n2) := ⟨_, rfl⟩
          rw [hn2.out] at hown5 ⊢
          have hE1 := hid (show (esK a0 ts1 ++ [lvK a0]).length = n2 by rw [List.length_append, hE0.out, ← hn2.out]; rfl)
          obtain ⟨m2, hm2⟩ : ∃ m2 : Nat, Hid (n2 = m2 + 1) := ⟨N + 1, hn2.out.symm⟩
          have n2l : n2 ≤ 22 := by rw [← hn2.out]; omega
          have n2p : 2 ≤ n2 := by rw [← hn2.out]; omega
          have hlast := hid (show (esK a0 ts1 ++ [lvK a0])[m2]? = some (lvK a0) by
            rw [List.getElem?_append_right (by rw [hE0.out]; have := hm2.out; have := hn2.out; omega), hE0.out]
            rw [show m2 - (N + 1) = 0 by have := hm2.out; have := hn2.out; omega]
            rfl)
          clear ho3 hB3 hoA hgrow5 hat5 hg5 hneA hsA hV hn2
          refine (event_fold (p := none) (cap := 0) (show Hid (foE [] (esK a0 ts1 ++ [lvK a0]) = ([], true)) from fo_b hk.out ts1) (.inl rfl) rise_nil (show Hid (([] : List Th).length = 0) from rfl) (by decide) (rowE_own hown5 hE1.out.symm) hE1 (by omega) (esK_in1 a0 ts1) (show Hid (([] : List Th).length = 0) from rfl)).mono ?_
          rintro x w6 ⟨p6, c6, rfl, -, hb6⟩
          have hB6 := below_on hB5 hb6
          have ho6 := owns_on hown5 hb6
          have hoA6 := owns_on hoA5 hb6
          have hs6 := hB6.size
          clear hb6 hB5 hown5 hoA5
          have hfirst : w6.rangeAt g5 0 (enK a0).cs := by
            rcases rowE_own ho6 hE1.out.symm with h | ⟨b, off, h, hc⟩
            · have := hE1.out; rw [h] at this; simp at this; omega
            · simp only [Option.some.injEq, Addr.mk.injEq, and_true] at h
              obtain ⟨rfl, rfl⟩ := h
              have := hc 0 (enK a0) rfl
              rwa [Nat.zero_mul, Nat.add_zero] at this
          have hpos : (0 : Int) < (n2 : Int) := by omega
          go_wp2_with (first
            | ((with_reducible refine wpList_load_mid_ev rfl (.tmp 80) rfl rfl hfirst ?_))
            | (at_builtin; refine wpList_append_both _ rfl _ _ 23 rfl w.heap.size 47 ie zE.v 25 264 Try.underlying23 hi hz0 hz1 hz2 rfl (by decide) _ _ _ _ rfl (ho6.alloc _) (by omega) ⟨w6.heap.size, 0, none⟩ 1 1 (enK a0).cs rfl rfl (World.news_of_block (heap_alloc_new _ _)) (evs_cell _) (by decide) (by unfold maxLen; omega) (by omega) (by simp; omega) ?_; intro g7 cap7 W7 hown7 hold7 hgrow7))
          have hB7 : Below w.heap.size w W7 := (hB6.alloc hs6 _).grown hgrow7 (by simp; omega) (fun k hk => (ho6.lt k hk).1)
          have hoA7 := (hoA6.alloc _).kept hgrow7 (.inr hneA5)
          rw [← flatE_one, ← flatE_append] at hown7
          clear ho6 hB6 hoA6 hgrow7 hfirst hs6
          refine (event_fold (p := none) (cap := 0) (show Hid (foE [] (esK a0 ts1 ++ [lvK a0] ++ [enK a0]) = ([thK a0 0], true)) from fo_c hk.out ts1) (.inl rfl) rise_nil (show Hid (([] : List Th).length = 0) from rfl) (by decide) (rowE_own hown7 (by rw [List.length_append, hE1.out]; rfl)) (show Hid ((esK a0 ts1 ++ [lvK a0] ++ [enK a0]).length = n2 + 1) from by show _ = _; rw [List.length_append, hE1.out]; rfl) (by omega) (esK_in2 a0 ts1 _ (enK_in a0)) (show Hid ([thK a0 0].length = 1) from rfl)).mono ?_
          rintro x w8 ⟨p8, c8, rfl, -, hb8⟩
          have hB8 := below_on hB7 hb8
          have ho8 := owns_on hold7 hb8
          have hoA8 := owns_on hoA7 hb8
          have hs8 := hB8.size
          clear hb8 hB7 hold7 hown7 hoA7
          have hrl : w8.rangeAt g5 (m2 * 25) (lvK a0).cs := by
            rcases rowE_own ho8 hE1.out.symm with h | ⟨b, off, h, hc⟩
            · have := hE1.out; rw [h] at this; simp at this; omega
            · simp only [Option.some.injEq, Addr.mk.injEq, and_true] at h
              obtain ⟨rfl, rfl⟩ := h
              have := hc m2 (lvK a0) hlast.out
              rwa [Nat.zero_add] at this
          have hml : (m2 : Int) < (n2 : Int) := by have := hm2.out; omega
          have hmi : (n2 : Int) - 1 = (m2 : Int) := by have := hm2.out; omega
          go_wp2_with (first
            | ((with_reducible refine wpList_load_mid_ev rfl (.tmp 93) rfl rfl hrl ?_))
            | (at_builtin; refine wpList_append_lies _ rfl _ _ 23 rfl w.heap.size 47 ie zE.v 25 264 Try.underlying23 hi hz0 hz1 hz2 rfl (by decide) _ _ _ rfl (ho8.alloc _) ⟨w8.heap.size, 0, none⟩ 1 1 (lvK a0).cs rfl rfl (World.news_of_block (heap_alloc_new _ _)) (evs_cell _) (by decide) (by unfold maxLen; omega) (by omega) (by simp; omega) (w8.heap.size + 1) (by simp) ?_; intro g9 cap9 W9 hown9 hgrow9 hat9 hg9))
          have hB9 : Below w.heap.size w W9 := (hB8.alloc hs8 _).grown hgrow9 (by simp; omega) (fun k hk => (ho8.lt k hk).1)
          have hoA9 := (hoA8.alloc _).kept hgrow9 (.inr hneA5)
          rw [← flatE_one, ← flatE_append] at hown9
          clear ho8 hB8 hoA8 hgrow9 hat9 hg9 hrl hs8 hmi hml
          refine (event_fold (p := none) (cap := 0) (show Hid (foE [] (esK a0 ts1 ++ [lvK a0] ++ [lvK a0]) = ([], false)) from fo_d hk.out ts1) (.inl rfl) rise_nil (show Hid (([] : List Th).length = 0) from rfl) (by decide) (rowE_own hown9 (by rw [List.length_append, hE1.out]; rfl)) (show Hid ((esK a0 ts1 ++ [lvK a0] ++ [lvK a0]).length = n2 + 1) from by show _ = _; rw [List.length_append, hE1.out]; rfl) (by omega) (esK_in2 a0 ts1 _ (lvK_in a0)) (show Hid (([] : List Th).length = 0) from rfl)).mono ?_
          rintro x w10 ⟨p10, c10, rfl, -, hb10⟩
          have hB10 := below_on hB9 hb10
          have hoA10 := owns_on hoA9 hb10
          clear hb10 hB9 hown9 hoA9
          obtain ⟨gA, rfl, -, -, -, -⟩ := owns_some hoA10 (by decide)
          have hx : w10.cell? ⟨gA, 1, none⟩ = some (.int .i64 (y % 64)) := by
            rw [hoA10.cellAt 1 (by decide)]
            rfl
          clear hoA10
          go_wp2_with fail
          go_ret
          exact ⟨rfl, hB10⟩
  · have hlen' : (20 : Int) < (len1 : Int) := by omega
    clear hlen
    go_enter Try.func7, Try.ntmps7
    go_wp2_with fail
    refine (known_holds _).mono ?_
    rintro x v1 ⟨rfl, hB1⟩
    go_wp2_with fail
    go_ret
    exact ⟨rfl, hB1⟩

theorem eventSpan_own : ownKnob Try.prog.godebug = none := by kernel_rfl
theorem eventSpan_laidOut : laidOutB Try.prog = true := by kernel_rfl
set_option maxRecDepth 100000 in
theorem eventSpan_lifted (os : Os) (started : os.Started) (H : Type) (enc : TypeId × Value → H) :
    ReturnsInHanded {} Try.checked os 7 .any (Rows.eventSpanSpec.pre6 enc Try.prog Try.f7 Rows.eventSpanRow.domain false) (Rows.eventSpanSpec.post enc Try.prog Try.f7 false true false false) := by
  refine returnsInHanded_of_change (C := Try.checked) eventSpan_own started (by kernel_rfl) Try.func7
    (ChangeSpec.witness6 (enc := enc) (C := Try.checked) false ⟨#[], #[.int .u8 0, .slice none 0 0], []⟩ 8 (by kernel_rfl) (by kernel_rfl) (by kernel_rfl) (by kernel_rfl)) ?_
  intro W base args ds gs before hval0 hW hcnd _
  have hval : ∀ (j : Nat) t v, Try.f7.params[j]? = some t → args[j]? = some v → Value.okWide Try.prog W .any base t v := hval0
  have hW' := hW
  obtain ⟨p, q, hA0, hV, rfl, hfz, hnd⟩ := hW
  have hA : DataW.TrodAll enc Try.prog W 0 (fun _ => true) true Try.f7.params.toList args.toList ds p := hA0
  rw [Try.params7] at hA hval
  obtain ⟨v0, vs0, d0, ds0, p0, q0, hargs, rfl, rfl, h0, r0⟩ := trodAll_cons hA
  obtain ⟨v1, vs1, d1, ds1, p1, q1, rfl, rfl, rfl, h1, r1⟩ := trodAll_cons r0
  obtain ⟨rfl, rfl, rfl⟩ := trodAll_nil r1
  obtain rfl : args = #[v0, v1] := by cases args; simp_all
  obtain ⟨rfl, rfl⟩ := trodVars_none hV
  have k0 := h0
  have lt0 : ∀ x ∈ p0, x.block < W.heap.size := by obtain ⟨m, hm⟩ := k0; exact DataW.trod_lt m _ _ _ hm
  have k1 := h1
  have lt1 : ∀ x ∈ p1, x.block < W.heap.size := by obtain ⟨m, hm⟩ := k1; exact DataW.trod_lt m _ _ _ hm
  obtain ⟨a0, rfl, rfl, rfl, w0⟩ := open_int Try.underlying5 (hval 0 5 v0 rfl rfl) h0
  obtain ⟨a1, len1, cap1, rfl⟩ := okWide_slice Try.underlying58 (hval 1 58 v1 rfl rfl)
  obtain ⟨ts1, ht1, hb1, hr1, hl1⟩ : ∃ ts1 : List Int, ts1.length = len1 ∧ (∀ n ∈ ts1, (Lit.int .u8 n).wf = true) ∧ RowIs W a1 (nums .u8 ts1) ∧ len1 ≤ maxLen := by
    obtain ⟨fuel, hf⟩ := h1
    rcases open_ints Try.underlying58 Try.underlying5 (by kernel_rfl) hf with ⟨hcs, _⟩ | ⟨x, l, c, ss, hcs, _, hl, hm, hz, _, hcell, hws⟩
    · simp [Value.cells] at hcs
      obtain ⟨rfl, rfl, rfl⟩ := hcs
      exact ⟨[], rfl, by simp, .inl rfl, by unfold maxLen; omega⟩
    · simp [Value.cells] at hcs
      obtain ⟨rfl, rfl, rfl⟩ := hcs
      have hz' : ss.length = cap1 := by simpa using hz
      obtain ⟨ts, e1, e2, e3⟩ := row_ints (len := len1) (by omega) hcell hws
      exact ⟨ts, e1, e2, e3, by omega⟩
  clear hA0 hval0
  refine (eventSpan_walk W a0 w0 a1 len1 cap1 ts1 ht1 hb1 hr1 hl1).mono fun e W' ⟨he, bel⟩ => ?_
  subst he
  exact ⟨_, rfl, _, _, _, [], _, [], hW', trodAll_mk1 (shut_bool Try.underlying4 _), (trodAll_cons_mk (Below.trod eventSpan_laidOut (by kernel_rfl) (of_decide_eq_true (by kernel_rfl)) k0 bel lt0) (trodAll_cons_mk (Below.trod eventSpan_laidOut (by kernel_rfl) (of_decide_eq_true (by kernel_rfl)) k1 bel lt1) trodAll_mk0)), rfl, bel.frame _, fun h => by cases h⟩

theorem eventSpan_over : Rows.eventSpanRow.holds Try.pinned (OpenSpec.ofChange Rows.eventSpanSpec) :=
  OpenClaim.holds_of_wide 7 Try.f7 rfl rfl rfl rfl rfl rfl rfl ⟨rfl, rfl, rfl, rfl, rfl⟩ rfl rfl rfl rfl rfl (by kernel_rfl) Try.func7 (by kernel_rfl)
    (of_decide_eq_true (by kernel_rfl)) (by unfold Func.isWrapper; first | (rw [if_pos (by decide +kernel)]; kernel_rfl) | (rw [if_neg (by decide +kernel)]; exact ⟨rfl, rfl⟩))
    (fun os started H enc _ => eventSpan_lifted os started H enc)

theorem eventSpan_holds : Rows.EventSpanSaid := eventSpan_over
#print axioms eventSpan_holds
end Go.Proofs.Ytkklchobiiajgaa
