/- Contracts of Some of the package thing and of the reference: the row of things at the beginning of bytes, in memory of its own, how many bytes they are, or what is wrong. -/
import Derived.Test.YtlbbdpkbglkmnaaThgS
import Derived.Test.YtlbbdpkbglkmnaaThgN
namespace Go.Proofs.Ytlbbdpkbglkmnaa
open Go.RowKit
set_option linter.unusedVariables false
theorem Try.infoT : (Try.prog.info? 28).map (fun i => (i.zero, i.size, i.bytes)) = some (some zT.v, 11, 120) := by kernel_rfl
/-- what a call that reads a row of things answers -/
def RowsOf (w : World) (L : List Th) (z e : Nat) : Ending → World → Prop := fun x w' => ∃ v, x = .returned (.tuple #[v, .int .i64 z, .int .i64 e]) ∧ w'.ownsRow w.heap.size 28 11 v L.length (flatT L) ∧ Below w.heap.size w w'
theorem readcut_at {s : ByteArray} {z : Nat} {t : Th} {n e : Nat} (h : Hid (readT (s.data.toList.drop z) = (t, n, e))) (hs : s.size ≤ 1000000) (w : World) :
    Calls Try.prog 24 #[.string (s.extract z s.size)] w fun x w' => x = .returned (.tuple #[t.v, .int .i64 n, .int .i64 e]) ∧ Below w.heap.size w w' :=
  thing_read (by show readT _ = _; rw [cut_data]; exact h.out) (by rw [ByteArray.size_extract]; omega) w
theorem refreadcut_at {s : ByteArray} {z : Nat} {t : Th} {n e : Nat} (h : Hid (readT (s.data.toList.drop z) = (t, n, e))) (hs : s.size ≤ 1000000) (w : World) :
    Calls Try.prog 25 #[.string (s.extract z s.size)] w fun x w' => x = .returned (.tuple #[t.v, .int .i64 n, .int .i64 e]) ∧ Below w.heap.size w w' :=
  ref_readThing (by show readT _ = _; rw [cut_data]; exact h.out) (by rw [ByteArray.size_extract]; omega) w
theorem cs_one (t : Th) : ∀ u ∈ t.cs, u.oneCell' = true := by
  intro u hu
  simp only [Th.cs, List.mem_cons, List.not_mem_nil, or_false] at hu
  rcases hu with rfl | rfl | rfl | rfl | rfl | rfl | rfl | rfl | rfl | rfl | rfl <;> rfl
set_option maxHeartbeats 2000000 in
set_option maxRecDepth 100000 in
theorem thing_some {s : ByteArray} {L : List Th} {z e : Nat} (h : Hid (someL s.data.toList = (L, z, e))) (hs : s.size ≤ 1000000) (w : World) :
    Calls Try.prog 26 #[.string s] w (RowsOf w L z e) := by
  obtain ⟨i0, hi, hz0, hz1, hz2⟩ := info_parts Try.infoT
  rcases hg : get s.data.toList with ⟨n, z0, x⟩
  obtain ⟨a1, a2, a3, a4, a5⟩ := get_ok hg
  have a2 : z0 ≤ s.size := a2
  have HG := hid hg
  clear hg a4 a5
  have e1 := h.out
  clear h
  by_cases hx : x = 0
  · subst hx
    by_cases hn : 200 < n
    · rw [someT_2 HG.out hn] at e1
      simp only [Prod.mk.injEq] at e1
      obtain ⟨rfl, rfl, rfl⟩ := e1
      have hn' : (200 : Int) < (n : Int) := by omega
      go_enter Try.func26, Try.ntmps26
      go_wp2_with fail
      refine (get_eq HG (by unfold maxLen; omega) _).mono ?_
      rintro y w1 ⟨rfl, h1⟩
      rw [h1]
      clear h1 w1
      go_wp2_with fail
      exact bodyPost_ret (v := .tuple #[.slice none 0 0, .int .i64 0, .int .i64 13]) (by simp [results, Try.results26, go_sem]) rfl ⟨_, rfl, World.ownsRow_nil _ _ _ _, Below.refl _ _⟩
    · have hn' : (n : Int) ≤ 200 := by omega
      have hn2 : n ≤ 200 := by omega
      have E1 := hid e1
      clear e1 hn
      go_enter Try.func26, Try.ntmps26
      go_wp2_with fail
      refine (get_eq HG (by unfold maxLen; omega) _).mono ?_
      rintro y w1 ⟨rfl, h1⟩
      rw [h1]
      clear h1 w1
      go_wp2_with fail
      go_loopw [6, 8, 24] (fun zv v c wr => ∃ (k zN : Nat) (M : List Th), k ≤ n ∧ c = .int .u64 k ∧ zv = .int .i64 zN ∧ runS s.data.toList z0 k = (M, zN, 0) ∧ M.length = k ∧ wr.ownsRow w.heap.size 28 11 v k (flatT M) ∧ zN ≤ s.size ∧ Below w.heap.size w wr) (fun _ _ c _ => n - (intOf c).toNat)
      case atStart => exact ⟨0, z0, [], by omega, rfl, rfl, rfl, rfl, World.ownsRow_nil _ _ _ _, a2, Below.refl _ _⟩
      case round =>
        obtain ⟨k, zN, M, hk, rfl, rfl, hS, hM, ho, hzs, hb⟩ := hrel
        have HS := hid hS
        have HM := hid hM
        clear hS hM
        obtain ⟨p, cap, rfl⟩ := owns_slice ho
        by_cases hlt : k < n
        · have hlt' : (k : Int) < (n : Int) := by omega
          rcases hr : readT (s.data.toList.drop zN) with ⟨t, m, e2⟩
          obtain ⟨r1, r2, r3, r4, r5, r6, r7, r8, r9⟩ := readT_fits hr
          have r1 : m ≤ s.size - zN := by have := r1; rw [List.length_drop] at this; exact this
          have HR := hid hr
          clear hr r2 r3 r4 r5 r6 r7 r8 r9
          by_cases he : e2 = 0
          · subst he
            obtain ⟨q, hq⟩ : ∃ q, Hid (risesB M t = q) := ⟨_, rfl⟩
            have hkm : Hid (k = M.length) := HM.out.symm
            have hkx : k ≤ maxLen := by unfold maxLen; omega
            go_wp2_with fail
            refine (readcut_at HR hs _).mono ?_
            rintro y w2 ⟨rfl, hb2⟩
            have ho2 := (owns_on ho hb2).alloc t.o
            have hB2 := below_on hb hb2
            have hs2 := hB2.size
            have hB3 := hB2.alloc hs2 t.o
            have K3 : Hid ((w2.alloc t.o).heap[w2.heap.size]? = some t.o) := new_at _ _ _ rfl
            clear ho hb hb2 hB2
            go_wp2_with fail
            refine (thing_rises hq hkm (row_own ho2 HM.out.symm) hkx).mono ?_
            rintro y w4 ⟨rfl, hb4⟩
            have ho4 := owns_on ho2 hb4
            have hB4 := below_on hB3 hb4
            have K4 := hid (var_on hb4 K3.out (at_lt K3.out))
            have c4 := cells_at K4.out
            have l4 := at_lt K4.out
            have hs4 := hB4.size
            clear hb4 ho2 hB3 K3
            cases q
            · have e1 := E1.out
              rw [someT_down HG.out hn2 hlt HS.out HR.out hq.out] at e1
              simp only [Prod.mk.injEq] at e1
              obtain ⟨rfl, rfl, rfl⟩ := e1
              clear E1
              go_wp2_with fail
              exact bodyPost_ret (v := .tuple #[.slice none 0 0, .int .i64 0, .int .i64 11]) (by simp [results, Try.results26, go_sem]) rfl ⟨_, rfl, World.ownsRow_nil _ _ _ _, hB4⟩
            · go_wp2_with (at_builtin; refine wpList_append_lies _ rfl _ _ 29 rfl w.heap.size 28 i0 zT.v 11 120 Try.underlying29 hi hz0 hz1 hz2 rfl (by decide) _ _ _ rfl (ho4.alloc _) ⟨w4.heap.size, 0, none⟩ 1 1 t.cs rfl rfl (World.news_of_block (heap_alloc_new _ _)) (cs_one t) (by decide) (by unfold maxLen; omega) (by omega) (by simp; omega) (w4.heap.size + 1) (by simp) ?_)
              intro g cap' w5 hown hgrow hat hg5
              go_wp2_with fail
              go_roundw
              case rel =>
                refine ⟨k + 1, zN + m, M ++ [t], by omega, by go_num, by go_num, someS_next HS.out HR.out hq.out, by rw [List.length_append, HM.out]; rfl, ?_, by omega, ?_⟩
                · rw [flatT_append, flatT_one]; exact hown
                · exact (hB4.alloc hs4 _).grown hgrow (by simp; omega) (fun k hk => (ho4.lt k hk).1)
              case measure => simp [intOf]; omega
          · have q1 : ((e2 : Int) != 0) = true := by simpa using he
            have e1 := E1.out
            rw [someT_bad HG.out hn2 hlt HS.out HR.out he] at e1
            simp only [Prod.mk.injEq] at e1
            obtain ⟨rfl, rfl, rfl⟩ := e1
            clear E1 he
            go_wp2_with fail
            refine (readcut_at HR hs _).mono ?_
            rintro y w2 ⟨rfl, hb2⟩
            have hB2 := below_on hb hb2
            have hs2 := hB2.size
            clear hb hb2
            go_wp2_with fail
            exact bodyPost_ret (v := .tuple #[.slice none 0 0, .int .i64 0, .int .i64 e2]) (by simp [results, Try.results26, go_sem]) rfl ⟨_, rfl, World.ownsRow_nil _ _ _ _, hB2.alloc hs2 _⟩
        · obtain rfl : k = n := by omega
          have e1 := E1.out
          rw [someT_3 HG.out hn2, HS.out] at e1
          simp only [Prod.mk.injEq] at e1
          obtain ⟨rfl, rfl, rfl⟩ := e1
          clear E1
          go_wp2_with fail
          exact bodyPost_ret (v := .tuple #[.slice p k cap, .int .i64 zN, .int .i64 0]) (by simp [results, Try.results26, go_sem]) rfl ⟨_, rfl, by rw [HM.out]; exact ho, hb⟩
  · have q1 : ((x : Int) != 0) = true := by simpa using hx
    rw [someT_1 HG.out hx] at e1
    simp only [Prod.mk.injEq] at e1
    obtain ⟨rfl, rfl, rfl⟩ := e1
    clear hx
    go_enter Try.func26, Try.ntmps26
    go_wp2_with fail
    refine (get_eq HG (by unfold maxLen; omega) _).mono ?_
    rintro y w1 ⟨rfl, h1⟩
    rw [h1]
    clear h1 w1
    go_wp2_with fail
    exact bodyPost_ret (v := .tuple #[.slice none 0 0, .int .i64 0, .int .i64 x]) (by simp [results, Try.results26, go_sem]) rfl ⟨_, rfl, World.ownsRow_nil _ _ _ _, Below.refl _ _⟩
end Go.Proofs.Ytlbbdpkbglkmnaa
