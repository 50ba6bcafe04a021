/- Contracts of the small functions of the package event: isNot, and who isn't one in a row; a number of at most so much; the kind; what stands behind it; what is told of one. -/
import Derived.Test.YtkklchobiiajgaaEvA
import Derived.Test.YtkklchobiiajgaaThgM
namespace Go.Proofs.Ytkklchobiiajgaa
open Go.RowKit
set_option linter.unusedVariables false
set_option maxRecDepth 100000 in
set_option maxHeartbeats 1000000 in
theorem event_isNot {e : Ev} {q : Bool} (h : Hid (isE e = q)) (hi : inE e) (w : World) : Calls Try.prog 28 #[e.v] w fun x w' => x = .returned (.bool (!q)) ∧ Below w.heap.size w w' := by
  obtain ⟨W, hW⟩ : ∃ W, W = w.alloc e.o := ⟨_, rfl⟩
  have hE : Below w.heap.size w W := by rw [hW]; exact below1 _ _
  have K := hid (show W.heap[w.heap.size]? = some e.o by rw [hW]; exact new_at _ _ _ rfl)
  have HC := fun w => event_is h hi w
  clear h hi
  go_enter Try.func28, Try.ntmps28
  go_upto_region 1 with fail
  rw [← hW]
  clear hW
  go_wp2_with ((with_reducible refine wpList_load_evG ?_ (.tmp 1) rfl rfl K.out ?_); · rfl)
  refine (HC _).mono ?_
  rintro x w1 ⟨rfl, hb1⟩
  have hB := below_on hE hb1
  clear hb1 hE K HC
  go_wp2_with fail
  go_ret
  exact ⟨rfl, hB⟩
theorem all_no {L : List Ev} {k : Nat} {e : Ev} (h : L[k]? = some e) (hf : isE e = false) : L.all isE = false := by
  rw [List.all_eq_false]
  exact ⟨e, List.mem_of_getElem? h, by simp [hf]⟩
theorem all_yes {L : List Ev} {n : Nat} (hn : L.length = n) (h : ∀ j e, j < n → L[j]? = some e → isE e = true) : L.all isE = true := by
  rw [List.all_eq_true]
  intro e he
  obtain ⟨j, hj, rfl⟩ := List.getElem_of_mem he
  exact h j _ (by omega) (by simp [hj])
theorem all_step {L : List Ev} {k : Nat} {t : Ev} (h : ∀ j e, j < k → L[j]? = some e → isE e = true) (ht : L[k]? = some t) (hq : isE t = true) : ∀ j e, j < k + 1 → L[j]? = some e → isE e = true := fun j u hj hu => by
  by_cases e : j = k
  · subst e
    have := Option.some.inj (ht.symm.trans hu)
    subst this
    exact hq
  · exact h j u (by omega) hu
set_option maxRecDepth 100000 in
set_option maxHeartbeats 1000000 in
theorem ev_index {L : List Ev} {n : Nat} {q : Bool} (w : World) (p : Option Addr) (cap : Nat) (hr : RowE w p L) (hn : Hid (L.length = n)) (hm : n ≤ 1000) (hi : ∀ e ∈ L, inE e) (hq : Hid (L.all isE = q)) :
    Calls Try.prog 55 #[.slice p n cap, .func (.func 28) #[] #[]] w fun e w' => ∃ r : Int, e = .returned (.int .i64 r) ∧ decide (0 ≤ r) = !q ∧ Below w.heap.size w w' := by
  have HR := hid hr
  clear hr
  go_enter Try.func55, Try.ntmps55
  go_wp2_with fail
  go_loopw [8] (fun i wr => ∃ k : Nat, k ≤ n ∧ i = .int .i64 k ∧ Hid (∀ j e, j < k → L[j]? = some e → isE e = true) ∧ Below w.heap.size w wr) (fun i _ => n - (intOf i).toNat)
  case atStart => exact ⟨0, by omega, rfl, hid (fun j t hj => by omega), Below.refl _ _⟩
  case round =>
    obtain ⟨k, hk, rfl, HO, hb⟩ := hrel
    by_cases hlt : k < n
    · have hlt' : (k : Int) < (n : Int) := by omega
      obtain ⟨t, ht⟩ := get_some L k (by rw [hn.out]; exact hlt)
      obtain ⟨b, off, rfl, hc⟩ := (HR.out.later hb).at ht
      have HT := hid ht
      have HC := hid hc
      clear ht hc
      obtain ⟨r, hr⟩ : ∃ r, Hid (isE t = r) := ⟨_, rfl⟩
      have hit := hi t (List.mem_of_getElem? HT.out)
      go_wp2_with ((with_reducible refine wpList_load_mid_ev rfl (.tmp 14) rfl rfl HC.out ?_))
      refine (event_isNot hr hit _).mono ?_
      rintro x w2 ⟨rfl, hb2⟩
      have hB2 := below_on hb hb2
      clear hb2 hb HC
      cases r
      · have e := hid ((all_no HT.out hr.out).symm.trans hq.out)
        go_wp2_with fail
        go_ret
        refine ⟨_, rfl, ?_, hB2⟩
        rw [← e.out]
        simp
      · have e := hid (all_step HO.out HT.out hr.out)
        go_wp2_with fail
        go_roundw
        case rel => exact ⟨k + 1, by omega, by go_num, e, hB2⟩
        case measure => simp [intOf]; omega
    · obtain rfl : k = n := by omega
      have hlt' : ¬ (k : Int) < (k : Int) := by omega
      have e := hid ((all_yes hn.out HO.out).symm.trans hq.out)
      go_wp2_with fail
      go_ret
      refine ⟨_, rfl, ?_, hb⟩
      rw [← e.out]
      simp
set_option maxHeartbeats 1000000 in
theorem ev_contains {L : List Ev} {n : Nat} {q : Bool} (w : World) (p : Option Addr) (cap : Nat) (hr : RowE w p L) (hn : Hid (L.length = n)) (hm : n ≤ 1000) (hi : ∀ e ∈ L, inE e) (hq : Hid (L.all isE = q)) :
    Calls Try.prog 27 #[.slice p n cap, .func (.func 28) #[] #[]] w fun e w' => e = .returned (.bool (!q)) ∧ Below w.heap.size w w' := by
  have HC := ev_index w p cap hr hn hm hi hq
  clear hr hi hq
  go_enter Try.func27, Try.ntmps27
  go_wp2_with fail
  refine HC.mono ?_
  rintro x w1 ⟨r, rfl, hd, hb⟩
  clear HC
  go_wp2_with fail
  go_ret
  exact ⟨rfl, hb⟩
set_option maxHeartbeats 1000000 in
theorem event_number {s : ByteArray} {T B n k e : Nat} (h : Hid (numE s.data.toList T B = (n, k, e))) (hs : s.size ≤ 1000000) (hT : T ≤ 2000000) (hB : B = 11 ∨ B = 13) (w : World) :
    Calls Try.prog 47 #[.string s, .int .u64 T, .int .i64 B] w fun x w' => x = .returned (.tuple #[.int .i64 n, .int .i64 k, .int .i64 e]) ∧ Below w.heap.size w w' := by
  rcases hg : get s.data.toList with ⟨m, y, x⟩
  obtain ⟨a1, a2, a3, a4, a5⟩ := get_ok hg
  have a2 : y ≤ s.size := a2
  have HG := hid hg
  clear hg a5
  have e1 := h.out
  clear h
  by_cases hx : x = 0
  · subst hx
    by_cases hm : T < m
    · rw [numE_2 HG.out hm] at e1
      simp only [Prod.mk.injEq] at e1
      obtain ⟨rfl, rfl, rfl⟩ := e1
      have hm' : (T : Int) < (m : Int) := by omega
      have hB0 : ((B : Int) != 0) = true := by rcases hB with rfl | rfl <;> rfl
      clear hB
      go_enter Try.func47, Try.ntmps47
      go_wp2_with fail
      refine (get_eq HG (by unfold maxLen; omega) _).mono ?_
      rintro u w1 ⟨rfl, h1⟩
      rw [h1]
      clear h1 w1
      go_wp2_with fail
      exact bodyPost_ret (v := .tuple #[.int .i64 0, .int .i64 0, .int .i64 B]) (by simp [results, Try.results47, go_sem]) rfl ⟨rfl, Below.refl _ _⟩
    · rw [numE_3 HG.out (by omega)] at e1
      simp only [Prod.mk.injEq] at e1
      obtain ⟨rfl, rfl, rfl⟩ := e1
      have hm' : ¬ (T : Int) < (m : Int) := by omega
      clear hB
      have hw : IntKind.i64.wrap (m : Int) = (m : Int) := by rw [IntKind.wrap_i64]; omega
      go_enter Try.func47, Try.ntmps47
      go_wp2_with fail
      refine (get_eq HG (by unfold maxLen; omega) _).mono ?_
      rintro u w1 ⟨rfl, h1⟩
      rw [h1]
      clear h1 w1
      go_wp2_with fail
      exact bodyPost_ret (v := .tuple #[.int .i64 m, .int .i64 y, .int .i64 0]) (by simp [results, Try.results47, go_sem]) rfl ⟨rfl, Below.refl _ _⟩
  · rw [numE_1 HG.out hx] at e1
    simp only [Prod.mk.injEq] at e1
    obtain ⟨rfl, rfl, rfl⟩ := e1
    have q1 : ((x : Int) != 0) = true := by simpa using hx
    have q2 : ((x : Int) == 0) = false := by simpa using hx
    clear hx hB
    go_enter Try.func47, Try.ntmps47
    go_wp2_with fail
    refine (get_eq HG (by unfold maxLen; omega) _).mono ?_
    rintro u w1 ⟨rfl, h1⟩
    rw [h1]
    clear h1 w1
    go_wp2_with fail
    exact bodyPost_ret (v := .tuple #[.int .i64 0, .int .i64 0, .int .i64 x]) (by simp [results, Try.results47, go_sem]) rfl ⟨rfl, Below.refl _ _⟩
theorem event_head {s : ByteArray} {w : World} {g n k e : Nat} (h : Hid (numE s.data.toList 3 11 = (n, k, e))) (hs : s.size ≤ 1000000) (hg : w.heap[g]? = some zE.o) :
    Calls Try.prog 48 #[.pointer (some ⟨g, 0, none⟩), .string s] w fun x w' => x = .returned (.tuple #[.int .i64 k, .int .i64 e]) ∧ w'.heap[g]? = some (⟨n, 0, zT, zD⟩ : Ev).o ∧ But g w w' := by
  have G := hid hg
  have lg := at_lt hg
  clear hg
  go_enter Try.func48, Try.ntmps48
  go_wp2_with fail
  refine (event_number (T := 3) (B := 11) h hs (by omega) (.inl rfl) _).mono ?_
  rintro y w1 ⟨rfl, hb⟩
  have G1 := hid (var_on hb G.out lg)
  have c := cells_at G1.out
  clear G
  go_wp2_with fail
  exact bodyPost_ret (v := .tuple #[.int .i64 k, .int .i64 e]) (by simp [results, Try.results48, go_sem]) rfl ⟨rfl, set_at G1.out _ rfl, (But.of_below hb).setCell _ _⟩
end Go.Proofs.Ytkklchobiiajgaa
