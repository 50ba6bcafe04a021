/- Contract of All of the package owner (slices.Clone). -/
import Derived.Test.YtnlhlmihhgihbaaOwN
import Derived.Lib.SliceRun
namespace Go.Proofs.Ytnlhlmihhgihbaa
open Go.RowKit
set_option linter.unusedVariables false
/-- owners one behind the other in the block b, from the cell off on -/
structure RowA (W : World) (b off : Nat) (L : List Ow) : Prop where
  lt : b < W.heap.size
  at_ : ∀ k o, L[k]? = some o → W.cell? ⟨b, off + k * 2, none⟩ = some (.int .i64 o.s) ∧ W.cell? ⟨b, off + k * 2 + 1, none⟩ = some (.int .i64 o.e)
theorem RowA.on {W W' : World} {b off B : Nat} {L : List Ow} (h : RowA W b off L) (hb : Below B W W') (hg : b < B) : RowA W' b off L :=
  ⟨Nat.lt_of_lt_of_le h.lt hb.size, fun k o hk => by
    obtain ⟨h1, h2⟩ := h.at_ k o hk
    exact ⟨by rw [hb.cell (p := ⟨b, off + k * 2, none⟩) hg]; exact h1, by rw [hb.cell (p := ⟨b, off + k * 2 + 1, none⟩) hg]; exact h2⟩⟩
theorem RowA.later {W W' : World} {b off : Nat} {L : List Ow} (h : RowA W b off L) (hb : Below W.heap.size W W') : RowA W' b off L := h.on hb h.lt
theorem RowA.but {W W' : World} {b off g : Nat} {L : List Ow} (h : RowA W b off L) (hb : But g W W') (hg : b ≠ g) : RowA W' b off L := by
  have hl := h.lt
  have e := hb.block b hl hg
  refine ⟨Nat.lt_of_lt_of_le hl hb.size, fun k o hk => ?_⟩
  obtain ⟨h1, h2⟩ := h.at_ k o hk
  constructor
  · rw [← h1]; unfold World.cell?; simp only; rw [e]
  · rw [← h2]; unfold World.cell?; simp only; rw [e]
theorem RowA.of_map {W : World} {g : Nat} {t : TypeId} {a : Int} {L : List Ow} (h : MB W g t a L) : RowA W g 1 L := ⟨h.lt, fun k o hk => h.cell hk⟩
theorem RowA.of_own {W : World} {base n cap g : Nat} {e : TypeId} {L : List Ow} (h : W.ownsRow base e 2 (.slice (some ⟨g, 0, none⟩) n cap) n (flatG Ow.cs L)) (hn : n = L.length) (hl : g < W.heap.size) : RowA W g 0 L := by
  refine ⟨hl, fun k o hk => ?_⟩
  rcases row_own Ow.z h hn with h0 | ⟨b, off, hp, hc⟩
  · subst h0; simp at hk
  · simp only [Option.some.injEq, Addr.mk.injEq] at hp
    obtain ⟨rfl, rfl, -⟩ := hp
    exact ⟨hc k o hk 0 _ rfl, hc k o hk 1 _ rfl⟩
theorem Try.info46 : (Try.prog.info? 46).map (fun i => (i.zero, i.size, i.bytes)) = some (some (.agg #[.int .i64 0, .int .i64 0]), 2, 16) := by kernel_rfl
theorem info_parts3 {t : TypeId} {z : Value} {s b : Nat} (h : (Try.prog.info? t).map (fun i => (i.zero, i.size, i.bytes)) = some (some z, s, b)) : ∃ i, Try.prog.info? t = some i ∧ i.zero = some z ∧ i.size = s ∧ i.bytes = b := by
  cases hi : Try.prog.info? t with
  | none => rw [hi] at h; cases h
  | some i =>
    rw [hi] at h
    simp at h
    exact ⟨i, rfl, h.1, h.2.1, h.2.2⟩
theorem ows_cell (L : List Ow) : ∀ u ∈ flatG Ow.cs L, u.oneCell' = true := by
  intro u hu
  obtain ⟨a, _, hu⟩ := List.mem_flatMap.1 hu
  simp [Ow.cs] at hu
  rcases hu with rfl | rfl <;> rfl
theorem map_read {W : World} {g : Nat} {t : TypeId} {a : Int} {L : List Ow} (h : MB W g t a L) : ∀ j u, (flatG Ow.cs L)[j]? = some u → W.cell? ⟨g, 1 + j, none⟩ = some u := by
  intro j u hu
  rw [(cells_at h.at_).1]
  show (mpC a L)[1 + j]? = some u
  rw [show 1 + j = j + 1 by omega]
  simp [mpC, hu]
theorem below_refl (w : World) : Below w.heap.size w w := Below.refl _ _
set_option maxHeartbeats 1000000 in
theorem clone_at {w : World} {g : Nat} {t : TypeId} {a : Int} {L : List Ow} (h : MB w g t a L) :
    Calls Try.prog 25 #[.slice (some ⟨g, 1, none⟩) 16 16] w fun e w' => ∃ b cap, e = .returned (.slice (some ⟨b, 0, none⟩) 16 cap) ∧ w.heap.size ≤ b ∧ RowA w' b 0 L ∧ Below w.heap.size w w' := by
  obtain ⟨i0, hi, hz0, hz1, hz2⟩ := info_parts3 Try.info46
  have A := hid (map_read h)
  have hfl := hid (show (flatG Ow.cs L).length = 16 * 2 by rw [flatG_length Ow.z, h.len])
  have h1c := hid (ows_cell L)
  have hlen := hid h.len
  clear h
  obtain ⟨X, hX⟩ : ∃ X, Hid (flatG Ow.cs L = X) := ⟨_, rfl⟩
  rw [hX.out] at A hfl h1c
  have q57 : ∀ (w : World) (a : Option Addr) (n c n' c' : Nat), (binOp .eql 38 (.slice a n c) (.slice none n' c')).run Try.prog w = .ok (.bool a.isNone) w := fun w a n c n' c' => Lib.run_eql_slice_nil w _ _ a n c n' c' Try.underlying38
  go_enter Try.func25, Try.ntmps25
  go_wp2_with (at_builtin; refine wpList_append_own _ rfl _ _ 38 rfl w.heap.size 46 i0 (.agg #[.int .i64 0, .int .i64 0]) 2 16 Try.underlying38 hi hz0 hz1 hz2 rfl (by decide) _ _ _ rfl (World.ownsRow_made w #[] 0 (Nat.le_refl _) (Nat.zero_le _) (by simp)) ⟨g, 1, none⟩ 16 16 X rfl hfl.out (fun j u hj => by rw [Addr.add_lit]; exact cell_below (below1 _ _) (A.out j u hj)) h1c.out (by unfold maxLen; omega) (by omega) (by simp) ?_)
  intro v' w1 hown hgrow hnil
  go_wp2
  go_ret
  have hown' : w1.ownsRow w.heap.size 46 2 v' 16 X := by simpa using hown
  have hB : Below w.heap.size w w1 := ((Below.refl _ w).alloc (Nat.le_refl _) _).grown hgrow (by simp) (by intro k hk; simp [Value.ownBlock] at hk; omega)
  rcases hown'.2 with ⟨rfl, h2⟩ | ⟨b, cap, cur, rfl, h2, h3, h4⟩
  · omega
  · exact ⟨b, cap, rfl, h2, RowA.of_own (by rw [hX.out]; exact hown') hlen.out.symm (at_lt h3), hB⟩
theorem own_all {w : World} {g : Nat} {t : TypeId} {a : Int} {L : List Ow} (h : MB w g t a L) :
    Calls Try.prog 19 #[.pointer (some ⟨g, 0, none⟩)] w fun e w' => ∃ b cap, e = .returned (.slice (some ⟨b, 0, none⟩) 16 cap) ∧ w.heap.size ≤ b ∧ RowA w' b 0 L ∧ Below w.heap.size w w' := by
  have C := clone_at h
  clear h
  go_enter Try.func19, Try.ntmps19
  go_wp2_with fail
  refine C.mono ?_
  rintro x w1 ⟨b, cap, rfl, h1, h2, h3⟩
  clear C
  go_wp2
  go_ret
  exact ⟨b, cap, rfl, h1, h2, h3⟩
end Go.Proofs.Ytnlhlmihhgihbaa
