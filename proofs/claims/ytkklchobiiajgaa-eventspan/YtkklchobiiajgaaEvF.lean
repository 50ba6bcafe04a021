/- Contract of Read of the package event: the events at the beginning of bytes, in memory of their own, how many bytes they are, or what is wrong. -/
import Derived.Test.YtkklchobiiajgaaEvE
import Derived.WalkMore
import Derived.Deep.AppendLies
namespace Go.Proofs.Ytkklchobiiajgaa
open Go.RowKit
set_option linter.unusedVariables false
/-- what a call that reads a row of events answers -/
def EvsOf (w : World) (L : List Ev) (z e : Nat) : Ending → World → Prop := fun x w' => ∃ v, x = .returned (.tuple #[v, .int .i64 z, .int .i64 e]) ∧ w'.ownsRow w.heap.size 47 25 v L.length (flatE L) ∧ Below w.heap.size w w'
theorem fn_head : ∀ W : World, (Instr.index 79 (.agg #[.func (.func 48) #[] #[], .func (.func 49) #[] #[]]) (.int .i64 0)).run Try.prog W = .ok (.func (.func 48) #[] #[]) W := fun W => by kernel_rfl
theorem fn_rest : ∀ W : World, (Instr.index 79 (.agg #[.func (.func 48) #[] #[], .func (.func 49) #[] #[]]) (.int .i64 1)).run Try.prog W = .ok (.func (.func 49) #[] #[]) W := fun W => by kernel_rfl
theorem head_cut {s : ByteArray} {zN : Nat} {w : World} {g n k e : Nat} (h : Hid (numE (s.data.toList.drop zN) 3 11 = (n, k, e))) (hs : s.size ≤ 1000000) (hg : w.heap[g]? = some zE.o) :
    Calls Try.prog 48 #[.pointer (some ⟨g, 0, none⟩), .string (s.extract zN s.size)] w fun x w' => x = .returned (.tuple #[.int .i64 k, .int .i64 e]) ∧ w'.heap[g]? = some (⟨n, 0, zT, zD⟩ : Ev).o ∧ But g w w' :=
  event_head (by show numE _ 3 11 = _; rw [cut_data]; exact h.out) (by rw [ByteArray.size_extract]; omega) hg
theorem rest_cut {s : ByteArray} {zN : Nat} {w : World} {g k z e : Nat} {x : Ev} (hk : k ≤ 3) (h : Hid (restE k (s.data.toList.drop zN) = (x, z, e))) (hs : s.size ≤ 1000000) (hg : w.heap[g]? = some (⟨k, 0, zT, zD⟩ : Ev).o) :
    Calls Try.prog 49 #[.pointer (some ⟨g, 0, none⟩), .string (s.extract zN s.size)] w (RestPost w g x z e) :=
  event_rest hk (by show restE k _ = _; rw [cut_data]; exact h.out) (by rw [ByteArray.size_extract]; omega) hg
set_option maxRecDepth 100000 in
set_option maxHeartbeats 8000000 in
theorem event_read {s : ByteArray} {L : List Ev} {z e : Nat} (h : Hid (readE s.data.toList = (L, z, e))) (hs : s.size ≤ 1000000) (w : World) :
    Calls Try.prog 23 #[.string s] w (EvsOf w L z e) := by
  obtain ⟨i0, hi, hz0, hz1, hz2⟩ := info_parts3 Try.infoEv
  rcases hg : numE s.data.toList 400 13 with ⟨n, z0, x⟩
  obtain ⟨a1, a2, a3, a4⟩ := numE_ok (.inr rfl) hg
  have a2 : z0 ≤ s.size := a2
  have HG := hid hg
  clear hg
  have H := hid h.out
  clear h
  by_cases hx : x = 0
  · subst hx
    clear a3 a4
    go_enter Try.func23, Try.ntmps23
    go_wp2_with fail
    go_step3
    go_wp2_with fail
    refine (event_number (T := 400) (B := 13) HG hs (by omega) (.inr rfl) _).mono ?_
    rintro y w1 ⟨rfl, hb1⟩
    go_wp2_with fail
    go_step3
    go_wp2_with fail
    have hB0 := hb1
    obtain ⟨S, hS⟩ : ∃ S, Hid (s.data.toList = S) := ⟨_, rfl⟩
    have eS : S.length = s.size := by rw [← hS.out]; rfl
    rw [hS.out] at H HG
    clear hb1
    go_loopw [8, 6, 7, 20] (fun l sz er c wr => ∃ (k zN : Nat) (M : List Ev), k ≤ n ∧ c = .int .i64 k ∧ sz = .int .i64 zN ∧ er = .int .i64 0 ∧ Hid (esS S z0 k = (M, zN, 0)) ∧ M.length = k ∧ wr.ownsRow w.heap.size 47 25 l k (flatE M) ∧ zN ≤ s.size ∧ Below w.heap.size w wr) (fun _ _ _ c _ => n - (intOf c).toNat)
    case atStart => exact ⟨0, z0, [], by omega, rfl, rfl, rfl, (show Hid _ from rfl), rfl, World.ownsRow_nil _ _ _ _, a2, hB0⟩
    case round =>
      obtain ⟨k, zN, M, hk, rfl, rfl, rfl, HM, hMk, ho, hz, hb⟩ := hrel
      clear hB0
      obtain ⟨pl, cl, rfl⟩ := owns_slice ho
      by_cases hlt : k < n
      · have hlt' : (k : Int) < (n : Int) := by omega
        have hs0 := hb.size
        rcases hn1 : numE (S.drop zN) 3 11 with ⟨m, j, f⟩
        obtain ⟨c1, c2, c3, c4⟩ := numE_ok (.inl rfl) hn1
        rw [List.length_drop] at c2
        have hzj : zN + j ≤ s.size := by omega
        have HN1 := hid hn1
        have HN1' : Hid (numE (s.data.toList.drop zN) 3 11 = (m, j, f)) := by show _ = _; rw [hS.out]; exact hn1
        clear hn1 c2
        obtain ⟨W1, hW1⟩ : ∃ W1, W1 = wr.alloc zeroEO := ⟨_, rfl⟩
        have B1 : Below wr.heap.size wr W1 := by rw [hW1]; exact below1 _ _
        have K1 := hid (show W1.heap[wr.heap.size]? = some zE.o by rw [hW1]; exact new_zeroE _)
        go_upto_region 6 with fail
        rw [← hW1]
        clear hW1
        go_wp2_with fail
        go_loopw [6, 7, 23] (fun sz er c wx => ∃ i : Nat, c = .int .i64 i ∧ er = .int .i64 0 ∧ Below wr.heap.size wr wx ∧
          ((i = 0 ∧ sz = .int .i64 zN ∧ wx.heap[wr.heap.size]? = some zE.o) ∨ (i = 1 ∧ f = 0 ∧ sz = .int .i64 ((zN + j : Nat) : Int) ∧ wx.heap[wr.heap.size]? = some (⟨m, 0, zT, zD⟩ : Ev).o) ∨
            (i = 2 ∧ ∃ (x : Ev) (y : Nat), evR (S.drop zN) = (x, y, 0) ∧ zN + y ≤ s.size ∧ sz = .int .i64 ((zN + y : Nat) : Int) ∧ wx.heap[wr.heap.size]? = some x.o))) (fun _ _ c _ => 2 - (intOf c).toNat)
        case atStart => exact ⟨0, rfl, rfl, B1, .inl ⟨rfl, rfl, K1.out⟩⟩
        case round =>
          obtain ⟨i, rfl, rfl, hbx, hcase⟩ := hrel
          rename World => wx
          clear B1 K1
          rcases hcase with ⟨rfl, rfl, hg0⟩ | ⟨rfl, rfl, rfl, hg0⟩ | ⟨rfl, x, y, hev, hzy, rfl, hg0⟩
          · have hI := fn_head
            have jz1 : (0 : Int) ≤ (zN : Int) := by omega
            have jz2 : (zN : Int) ≤ (s.size : Int) := by omega
            have G0 := hid hg0
            clear hg0
            go_wp2_with fail
            refine (head_cut HN1' hs G0.out).mono ?_
            rintro u w2 ⟨rfl, hg2, hbut⟩
            have hb2 := hbut.below hbx (Nat.le_refl _)
            have G2 := hid hg2
            clear hg2 hbut G0 hI hbx
            by_cases hf : f = 0
            · subst hf
              go_wp2_with fail
              go_roundw
              case rel => exact ⟨1, rfl, rfl, hb2, .inr (.inl ⟨rfl, trivial, by go_num, G2.out⟩)⟩
              case measure => simp [intOf]
            · have hbad := readE_bad HG.out hlt HM.out (evR_1 HN1.out hf) hf
              have hfin := H.out
              rw [hbad] at hfin
              simp only [Prod.mk.injEq] at hfin
              obtain ⟨rfl, rfl, rfl⟩ := hfin
              have q1 : ((f : Int) != 0) = true := by simpa using hf
              clear hf hbad
              go_wp2_with fail
              rw [Exit.noGoto_ret]
              exact bodyPost_ret (v := .tuple #[.slice none 0 0, .int .i64 0, .int .i64 f]) (by simp [results, Try.results23, go_sem]) rfl ⟨_, rfl, World.ownsRow_nil _ _ _ _, below_on hb hb2⟩
          · have hI := fn_rest
            have jz1 : (0 : Int) ≤ ((zN + j : Nat) : Int) := by omega
            have jz2 : ((zN + j : Nat) : Int) ≤ (s.size : Int) := by omega
            rcases hr2 : restE m (S.drop (zN + j)) with ⟨x, y, g⟩
            obtain ⟨d1, d2, d3⟩ := restE_ok c1 hr2
            rw [List.length_drop] at d1
            have hzy : zN + j + y ≤ s.size := by omega
            have HR2 : Hid (restE m (s.data.toList.drop (zN + j)) = (x, y, g)) := by show _ = _; rw [hS.out]; exact hr2
            have HR3 : Hid (restE m ((S.drop zN).drop j) = (x, y, g)) := by show _ = _; rw [List.drop_drop]; exact hr2
            have G0 := hid hg0
            clear hg0 hr2 d1 d2 d3
            obtain ⟨zj, hzj'⟩ : ∃ zj, Hid (zN + j = zj) := ⟨_, rfl⟩
            rw [hzj'.out] at jz1 jz2 hzy HR2 ⊢
            go_wp2_with fail
            refine (rest_cut c1 HR2 hs G0.out).mono ?_
            rintro u w2 ⟨rfl, hg2, hbut⟩
            have hb2 := hbut.below hbx (Nat.le_refl _)
            have G2 := hid hg2
            clear hg2 hbut G0 hI hbx
            by_cases hf : g = 0
            · subst hf
              have hev := evR_3 HN1.out HR3.out
              have hzy2 : zN + (j + y) ≤ s.size := by have := hzj'.out; omega
              have e2 : zj + y = zN + (j + y) := by have := hzj'.out; omega
              have HE := hid hev
              clear hev
              go_wp2_with fail
              go_roundw
              case rel => exact ⟨2, rfl, rfl, hb2, .inr (.inr ⟨rfl, x, j + y, HE.out, hzy2, by rw [← e2]; go_num, G2.out⟩)⟩
              case measure => simp [intOf]
            · have hbad := readE_bad HG.out hlt HM.out (evR_2 HN1.out HR3.out hf) hf
              have hfin := H.out
              rw [hbad] at hfin
              simp only [Prod.mk.injEq] at hfin
              obtain ⟨rfl, rfl, rfl⟩ := hfin
              have q1 : ((g : Int) != 0) = true := by simpa using hf
              clear hf hbad
              go_wp2_with fail
              rw [Exit.noGoto_ret]
              exact bodyPost_ret (v := .tuple #[.slice none 0 0, .int .i64 0, .int .i64 g]) (by simp [results, Try.results23, go_sem]) rfl ⟨_, rfl, World.ownsRow_nil _ _ _ _, below_on hb hb2⟩
          · have HE := hid hev
            have G0 := hid hg0
            have ho2 := owns_on ho hbx
            have hB2 := below_on hb hbx
            have hsx := hB2.size
            have hM' := hid (esS_next HM.out HE.out)
            have lM : k ≤ 400 := by omega
            clear hev hg0 ho
            go_wp2_with (first
              | ((with_reducible refine wpList_load_ev rfl (.tmp 9) rfl rfl G0.out ?_))
              | (at_builtin; refine wpList_append_lies _ rfl _ _ 23 rfl w.heap.size 47 i0 zE.v 25 264 Try.underlying23 hi hz0 hz1 hz2 rfl (by decide) _ _ _ rfl (ho2.alloc _) ⟨wx.heap.size, 0, none⟩ 1 1 x.cs rfl rfl (World.news_of_block (heap_alloc_new _ _)) (evs_cell x) (by decide) (by unfold maxLen; omega) (by omega) (by simp; omega) (wx.heap.size + 1) (by simp) ?_; intro g5 cap5 W5 hown5 hgrow5 hat5 hg5))
            go_roundw
            case rel =>
              refine ⟨k + 1, zN + y, M ++ [x], by omega, by go_num, rfl, rfl, hM', by simp [hMk], ?_, hzy, ?_⟩
              · rw [flatE_append, flatE_one]; exact hown5
              · exact (hB2.alloc hsx _).grown hgrow5 (by simp; omega) (fun k hk => (ho2.lt k hk).1)
            case measure => simp [intOf]; omega
      · obtain rfl : k = n := by omega
        have hlt' : ¬ (k : Int) < (k : Int) := by omega
        have hfin := H.out
        rw [readE_2 HG.out, HM.out] at hfin
        simp only [Prod.mk.injEq] at hfin
        obtain ⟨rfl, rfl, rfl⟩ := hfin
        go_wp2_with fail
        exact bodyPost_ret (v := .tuple #[.slice pl k cl, .int .i64 zN, .int .i64 0]) (by simp [results, Try.results23, go_sem]) rfl ⟨_, rfl, by rw [hMk]; exact ho, hb⟩
  · have hfin := H.out
    rw [readE_1 HG.out hx] at hfin
    simp only [Prod.mk.injEq] at hfin
    obtain ⟨rfl, rfl, rfl⟩ := hfin
    obtain ⟨rfl, rfl⟩ := a4 hx
    have q1 : ((x : Int) != 0) = true := by simpa using hx
    clear hx a3 a4
    go_enter Try.func23, Try.ntmps23
    go_wp2_with fail
    go_step3
    go_wp2_with fail
    refine (event_number (T := 400) (B := 13) HG hs (by omega) (.inr rfl) _).mono ?_
    rintro y w1 ⟨rfl, hb1⟩
    go_wp2_with fail
    go_step3
    go_wp2_with fail
    go_loopw [7, 20] (fun er c wr => er = .int .i64 x ∧ c = .int .i64 0 ∧ wr = w1) (fun _ _ _ => 0)
    case atStart => exact ⟨rfl, rfl, rfl⟩
    case round =>
      obtain ⟨rfl, rfl, rfl⟩ := hrel
      go_wp2_with fail
      exact bodyPost_ret (v := .tuple #[.slice none 0 0, .int .i64 0, .int .i64 x]) (by simp [results, Try.results23, go_sem]) rfl ⟨_, rfl, World.ownsRow_nil _ _ _ _, hb1⟩
end Go.Proofs.Ytkklchobiiajgaa
