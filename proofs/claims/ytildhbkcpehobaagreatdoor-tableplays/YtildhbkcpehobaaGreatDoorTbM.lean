/- The table's map over this translation: it holds things by their numbers; what it is good for is said by a row of things, rising. Looking up, storing, deleting, counting; no conditions beyond those typed. -/
import Derived.Test.YtildhbkcpehobaaGreatDoorTbP
import Derived.Maps.OwnSet
import Derived.Lib.SlKeysI
namespace Go.Proofs.YtildhbkcpehobaaGreatDoor
open Go.RowKit Go.Maps
set_option linter.unusedVariables false
/-- an element is told as it is -/
def RV (v : Value) : Option (DataW Value × List MemPlace) := some (.held v, [])
def entT (t : Th) : Lit × DataW Value := (.int .i64 t.id, .held t.v)
def DM (L : List Th) : DataW Value := .map (L.map entT)
def findT (id : Int) (L : List Th) : Option Th := L.find? (fun t => t.id == id)
def hasT (id : Int) (L : List Th) : Bool := L.any (fun t => t.id == id)
def insT (t : Th) : List Th → List Th
  | [] => [t]
  | a :: r => if t.id < a.id then t :: a :: r else a :: insT t r
def outT (id : Int) (L : List Th) : List Th := L.filter (fun a => !(a.id == id))
def witT (t : Th) (L : List Th) : List Th := insT t (outT t.id L)
abbrev Rise (L : List Th) : Prop := L.Pairwise (fun a b => a.id < b.id)
/-- block b of W is a map that holds just the things of L -/
def OM (W : World) (b : Nat) (L : List Th) : Prop := W.ownsMap Tryz.prog 3 RV b L.length (DM L)
theorem same_int (a b : Int) : (Lit.int .i64 a).sameKey (.int .i64 b) = (a == b) := by
  simp [Lit.sameKey]
  rw [Bool.eq_iff_iff]; simp
theorem DM_size (L : List Th) : Maps.size (DM L) = L.length := by simp [DM, Maps.size]
theorem DM_has (L : List Th) (id : Int) : Maps.has (DM L) (.int .i64 id) = hasT id L := by
  unfold DM hasT
  rw [Maps.has_eq, List.any_map]
  congr 1
  funext t
  exact same_int t.id id
theorem DM_at (L : List Th) (id : Int) : (DM L).atKey (.int .i64 id) (.held zT.v) = .held ((findT id L).getD zT).v := by
  unfold DM findT DataW.atKey
  induction L with
  | nil => rfl
  | cons a L ih =>
    simp only [List.map_cons, List.find?_cons]
    rw [show (entT a).1.sameKey (.int .i64 id) = (a.id == id) from same_int a.id id]
    cases a.id == id
    · exact ih
    · rfl
theorem ins_map (t : Th) : ∀ L : List Th, DataW.insert (entT t) (L.map entT) = (insT t L).map entT
  | [] => rfl
  | a :: r => by
    simp only [List.map_cons, DataW.insert, insT]
    rw [show (entT t).1.before (entT a).1 = decide (t.id < a.id) from rfl]
    by_cases h : t.id < a.id
    · simp [h]
    · simp [h, ins_map t r]
theorem out_map (id : Int) (L : List Th) : (L.map entT).filter (fun p => !p.1.sameKey (.int .i64 id)) = (outT id L).map entT := by
  unfold outT
  induction L with
  | nil => rfl
  | cons a L ih =>
    simp only [List.map_cons, List.filter_cons]
    rw [show (entT a).1.sameKey (.int .i64 id) = (a.id == id) from same_int a.id id]
    cases a.id == id <;> simp [ih]
theorem DM_put (t : Th) (L : List Th) : (DM L).put (.int .i64 t.id) (.held t.v) = DM (witT t L) := by
  unfold DM witT
  rw [DataW.put, out_map, show ((Lit.int .i64 t.id, DataW.held t.v) : Lit × DataW Value) = entT t from rfl, ins_map]
theorem DM_del (id : Int) (L : List Th) : (DM L).del (.int .i64 id) = DM (outT id L) := by
  unfold DM
  rw [DataW.del, out_map]
theorem DM_keys (L : List Th) : intKeys (DM L) = L.map Th.id := by
  show (L.map entT).map (fun p => Go.intOf p.1) = _
  rw [List.map_map]
  rfl
theorem ins_length (t : Th) : ∀ L : List Th, (insT t L).length = L.length + 1
  | [] => rfl
  | a :: r => by
    unfold insT
    split
    · simp
    · simp [ins_length t r]
theorem out_length (id : Int) (L : List Th) : (outT id L).length ≤ L.length := List.length_filter_le _ _
theorem tight {W : World} {P : Program} {k : TypeId} {R : Value → Option (DataW Value × List MemPlace)} {b n : Nat} {D : DataW Value} (h : W.ownsMap P k R b n D) : W.ownsMap P k R b (Maps.size D) D := by
  obtain ⟨es, clock, hb, F, hs, rfl⟩ := h
  exact ⟨es, clock, hb, F, by simp [Maps.size, length_sorted], rfl⟩
theorem OM.of {W : World} {b n : Nat} {L : List Th} (h : W.ownsMap Tryz.prog 3 RV b n (DM L)) : OM W b L := by
  have := tight h
  rwa [DM_size] at this
theorem OM.lt {W : World} {b : Nat} {L : List Th} (h : OM W b L) : b < W.heap.size := World.ownsMap.lt h
theorem OM.off {W W' : World} {b : Nat} {L : List Th} {X : List Nat} (h : OM W b L) (ho : Off X W W') (hx : b ∉ X) : OM W' b L := by
  have hl := h.lt
  obtain ⟨es, clock, hb, r⟩ := h
  exact ⟨es, clock, (ho.block b hl hx).trans hb, r⟩
theorem OM.later {W W' : World} {b : Nat} {L : List Th} (h : OM W b L) (hb : Below W.heap.size W W') : OM W' b L := h.off (X := []) (Off.of_below hb []) (by simp)
theorem om_made (w : World) : OM (w.alloc (.map #[] 0)) w.heap.size [] := World.ownsMap_made w Tryz.prog 3 RV
theorem om_block {W : World} {b : Nat} {L : List Th} (h : OM W b L) : ∃ es c, W.heap[b]? = some (.map es c) := by
  obtain ⟨es, clock, hb, _⟩ := h
  exact ⟨es, clock, hb⟩
theorem om_ne {W : World} {b g : Nat} {L : List Th} {cs : Array Value} {t : TypeId} {fr : Nat × Nat} (h : OM W b L) (hg : W.heap[g]? = some (.cells cs t fr)) : b ≠ g := by
  obtain ⟨es, clock, hb, _⟩ := h
  intro e
  subst e
  rw [hb] at hg
  cases hg
theorem key_law : Keyed Tryz.prog 3 := int_keyed Tryz.underlying3
theorem wf_int {id : Int} (h : inI id) : (Lit.int .i64 id).wf = true := by
  simp [Lit.wf, IntKind.min, IntKind.max, IntKind.signed, IntKind.bits]
  obtain ⟨h1, h2⟩ := h
  omega
theorem key_int {id : Int} (h : inI id) : keyOf Tryz.prog 3 (.int .i64 id) = some (.int .i64 id) := keyOf_int_mk Tryz.underlying3 (wf_int h)
theorem zero_th (w : World) : (zeroValue 33).run Tryz.prog w = .ok zT.v w := by kernel_rfl
/-- 'x, ok := m[id]' -/
theorem om_look {W : World} {b : Nat} {L : List Th} (h : OM W b L) {id : Int} (hi : inI id) {t : Th} {q : Bool} (ht : Hid ((findT id L).getD zT = t)) (hq : Hid (hasT id L = q)) :
    (Instr.lookup 55 (.map (some b)) (.int .i64 id) true).run Tryz.prog W = .ok (.tuple #[t.v, .bool q]) W := by
  obtain ⟨v, ps, hr, hv⟩ := World.ownsMap.look_ok h key_law Tryz.underlying55 (zero_th W) (zd := .held zT.v) (zp := []) rfl (key_int hi)
  rw [DM_at, ht.out] at hv
  simp only [RV, Option.some.injEq, Prod.mk.injEq, DataW.held.injEq] at hv
  rw [hr, hv.1, DM_has, hq.out]
/-- 'm[id]' -/
theorem om_get {W : World} {b : Nat} {L : List Th} (h : OM W b L) {id : Int} (hi : inI id) {t : Th} (ht : Hid ((findT id L).getD zT = t)) :
    (Instr.lookup 55 (.map (some b)) (.int .i64 id) false).run Tryz.prog W = .ok t.v W := by
  obtain ⟨v, ps, hr, hv⟩ := World.ownsMap.lookup h key_law Tryz.underlying55 (zero_th W) (zd := .held zT.v) (zp := []) rfl (key_int hi)
  rw [DM_at, ht.out] at hv
  simp only [RV, Option.some.injEq, Prod.mk.injEq, DataW.held.injEq] at hv
  rw [hr, hv.1]
/-- 'len(m)' -/
theorem om_len {W : World} {b : Nat} {L : List Th} (h : OM W b L) {n : Nat} (hn : Hid (L.length = n)) (ty : TypeId) : (Builtin.len_ #[55] ty #[.map (some b)]).run Tryz.prog W = .ok (.int .i64 (n : Nat)) W := by
  rw [World.ownsMap.len h Tryz.underlying55 ty, DM_size, hn.out]
theorem turned_off {W W' : World} {b : Nat} (h : W.mapTurned W' b) : Off [b] W W' := by
  have hg := h.grown
  exact ⟨hg.os, hg.tape, hg.output, hg.size, fun k hk hx => hg.block k hk (fun e => hx (by cases e; simp))⟩
/-- 'm[t.ID] = t' -/
theorem om_put {W : World} {b : Nat} {L : List Th} (h : OM W b L) (hl : L.length ≤ 999) {t : Th} (hi : inI t.id) :
    ∃ w', (Instr.mapUpdate 55 (.map (some b)) (.int .i64 t.id) t.v).run Tryz.prog W = .ok () w' ∧ OM w' b (witT t L) ∧ Off [b] W w' := by
  obtain ⟨w', h1, h2, h3⟩ := World.ownsMap.store h key_law Tryz.underlying55 (by unfold maxLen; omega) (key_int hi) (val := t.v) (d := .held t.v) (ps := []) rfl
  rw [DM_put] at h2
  exact ⟨w', h1, OM.of h2, turned_off h3⟩
/-- 'delete(m, id)' -/
theorem om_del {W : World} {b : Nat} {L : List Th} (h : OM W b L) {id : Int} (hi : inI id) (ty : TypeId) :
    ∃ w', (Builtin.delete_ #[55, 3] ty #[.map (some b), .int .i64 id]).run Tryz.prog W = .ok (.tuple #[]) w' ∧ OM w' b (outT id L) ∧ Off [b] W w' := by
  obtain ⟨w', h1, h2, h3⟩ := World.ownsMap.drop h key_law Tryz.underlying55 (key_int hi) ty
  rw [DM_del] at h2
  exact ⟨w', h1, OM.of h2, turned_off h3⟩
theorem wp_look {w : World} {ops : Array Oper} {rest : List Oper} {o : Oper} {a : Act} {Q : Exit → Act → World → Prop} (hg : o.guard = none) (m x : Operand) (hop : o.op = Op.lookup 55 m x true)
    {b : Nat} {L : List Th} (hm : a.eval m = .map (some b)) (h : OM w b L) {id : Int} (hx : a.eval x = .int .i64 id) (hi : inI id) {t : Th} {q : Bool} (ht : Hid ((findT id L).getD zT = t)) (hq : Hid (hasT id L = q))
    (hK : wpList Tryz.prog ops Q rest (a.put o.dst (.tuple #[t.v, .bool q])) w) : wpList Tryz.prog ops Q (o :: rest) a w := by
  refine wpList_plain hg fun K' hK' => ?_
  unfold Oper.wp
  simp only [execOp, hop, hm, hx, Sem.run_bind, om_look h hi ht hq, Result.andThen_ok]
  exact hK' _ _ hK
theorem wp_get {w : World} {ops : Array Oper} {rest : List Oper} {o : Oper} {a : Act} {Q : Exit → Act → World → Prop} (hg : o.guard = none) (m x : Operand) (hop : o.op = Op.lookup 55 m x false)
    {b : Nat} {L : List Th} (hm : a.eval m = .map (some b)) (h : OM w b L) {id : Int} (hx : a.eval x = .int .i64 id) (hi : inI id) {t : Th} (ht : Hid ((findT id L).getD zT = t))
    (hK : wpList Tryz.prog ops Q rest (a.put o.dst t.v) w) : wpList Tryz.prog ops Q (o :: rest) a w := by
  refine wpList_plain hg fun K' hK' => ?_
  unfold Oper.wp
  simp only [execOp, hop, hm, hx, Sem.run_bind, om_get h hi ht, Result.andThen_ok]
  exact hK' _ _ hK
theorem wp_len {w : World} {ops : Array Oper} {rest : List Oper} {o : Oper} {a : Act} {Q : Exit → Act → World → Prop} (hg : o.guard = none) (m : Operand) (hop : o.op = Op.call { callee := Callee.builtin Builtin.len, args := #[m], argTypes := #[55] })
    {b : Nat} {L : List Th} (hm : a.eval m = .map (some b)) (h : OM w b L) {n : Nat} (hn : Hid (L.length = n))
    (hK : wpList Tryz.prog ops Q rest (a.put o.dst (.int .i64 (n : Nat))) w) : wpList Tryz.prog ops Q (o :: rest) a w := by
  refine wpList_plain hg fun K' hK' => ?_
  unfold Oper.wp
  simp [execOp, hop, resolve, invoke, builtin, hm, om_len h hn o.type, Result.andThen]
  exact hK' _ _ hK
theorem wp_del {w : World} {ops : Array Oper} {rest : List Oper} {o : Oper} {a : Act} {Q : Exit → Act → World → Prop} (hg : o.guard = none) (m x : Operand) (hop : o.op = Op.call { callee := Callee.builtin Builtin.delete, args := #[m, x], argTypes := #[55, 3] })
    {b : Nat} {L : List Th} (hm : a.eval m = .map (some b)) (h : OM w b L) {id : Int} (hx : a.eval x = .int .i64 id) (hi : inI id)
    (hK : ∀ w', OM w' b (outT id L) → Off [b] w w' → wpList Tryz.prog ops Q rest (a.put o.dst (.tuple #[])) w') : wpList Tryz.prog ops Q (o :: rest) a w := by
  refine wpList_plain hg fun K' hK' => ?_
  obtain ⟨w', hr, h1, h2⟩ := om_del h hi o.type
  unfold Oper.wp
  simp [execOp, hop, resolve, invoke, builtin, hm, hx, hr, Result.andThen]
  exact hK' _ _ (hK w' h1 h2)
theorem step_put {w : World} {ops : Array Oper} {o : Oper} {a : Act} {K : Act → World → Prop} {Q : Exit → Act → World → Prop} {E : Prop} (hgd : o.guard = none) (m x v : Operand) (hop : o.op = Op.mapUpdate 55 m x v)
    {b : Nat} {L : List Th} (hm : a.eval m = .map (some b)) (h : OM w b L) (hl : L.length ≤ 999) {t : Th} (hx : a.eval x = .int .i64 t.id) (hv : a.eval v = t.v) (hi : inI t.id)
    (hK : ∀ w', OM w' b (witT t L) → Off [b] w w' → K (a.put o.dst undef) w') :
    if Region.wanted o (yielded ops a.tmps) = true then Oper.wp Tryz.prog o a w K Q else E := by
  rw [if_pos (by simp [Region.wanted, hgd])]
  obtain ⟨w', hr, h1, h2⟩ := om_put h hl hi
  unfold Oper.wp
  simp only [execOp, hop, hm, hx, hv, Sem.run_bind, Sem.run_pure, hr, Result.andThen_ok]
  exact hK w' h1 h2
end Go.Proofs.YtildhbkcpehobaaGreatDoor
