/- Contracts of the lists of parts of the package cmd: place, record, head, rest, parts. -/
import Derived.Test.YtfcofhlcainanaaCmM
import Derived.Deep.AppendLies
import Derived.Deep.Upon
import Derived.Deep.RegionHeld3
namespace Go.Proofs.Ytfcofhlcainanaa
open Go.RowKit
set_option linter.unusedVariables false
theorem Try.infoPt : (Try.prog.info? 50).map (fun i => (i.zero, i.size, i.bytes)) = some (some .nilIface, 1, 16) := by kernel_rfl
theorem owns_slice {W : World} {base : Nat} {e : TypeId} {size : Nat} {v : Value} {n : Nat} {xs : List Value} (h : W.ownsRow base e size v n xs) : ∃ p cap, v = .slice p n cap := by
  rcases h.2 with ⟨rfl, rfl⟩ | ⟨g, cap, cur, rfl, _⟩
  · exact ⟨_, _, rfl⟩
  · exact ⟨_, _, rfl⟩
theorem owns_on {base : Nat} {e : TypeId} {size : Nat} {v : Value} {n : Nat} {xs : List Value} {W W' : World} (h : W.ownsRow base e size v n xs) (hb : Below W.heap.size W W') : W'.ownsRow base e size v n xs :=
  h.kept (row := none) ⟨hb.os, hb.tape, hb.output, hb.size, fun k hk _ => hb.block k hk⟩ (by cases hv : v.ownBlock <;> simp)
/-- a row of parts that the call made -/
def RowP (W : World) (base g : Nat) (v : Value) (L : List Pa) : Prop := W.ownsRow base 50 1 v L.length (L.map (Pa.v g))
theorem RowP.on {W W' : World} {base g : Nat} {v : Value} {L : List Pa} (h : RowP W base g v L) (hb : Below W.heap.size W W') : RowP W' base g v L := owns_on h hb
theorem one_cell (p : Pa) (g : Nat) : ∀ u ∈ [p.v g], u.oneCell' = true := by
  intro u hu
  simp only [List.mem_singleton] at hu
  subst hu
  cases p <;> rfl
set_option maxHeartbeats 1000000 in
theorem cmd_place {w : World} {g b : Nat} {ks : List Nat} {cap : Nat} {ty : TypeId} {fr : Nat × Nat} (hb : w.heap[b]? = some (.cells (ks.map fun k => Value.pointer (some ⟨g, k, none⟩)).toArray ty fr)) (hl : ks.length ≤ 4) :
    Calls Try.prog 26 #[.slice (some ⟨b, 0, none⟩) ks.length cap] w fun e w' => ∃ v, e = .returned v ∧ RowP w' w.heap.size g v (ks.map fun k => .num k (-1000) 1000) ∧ Below w.heap.size w w' := by
  obtain ⟨i0, hi, hz0, hz1, hz2⟩ := info_parts Try.infoPt
  obtain ⟨n, hn⟩ : ∃ n, Hid (ks.length = n) := ⟨_, rfl⟩
  have h : ∀ j k, ks[j]? = some k → w.cell? ⟨b, j, none⟩ = some (.pointer (some ⟨g, k, none⟩)) := fun j k hk => by
    rw [Go.Joins.cell_of_block hb]
    simp [hk]
  have HR := hid h
  clear h hb
  rw [hn.out]
  rw [hn.out] at hl
  go_enter Try.func26, Try.ntmps26
  go_wp2_with fail
  go_loopw [3, 8] (fun l i wr => ∃ k : Nat, k ≤ n ∧ i = .int .i64 k ∧ wr.ownsRow w.heap.size 50 1 l k ((ks.take k).map fun k => Pa.v g (.num k (-1000) 1000)) ∧ Below w.heap.size w wr) (fun _ i _ => n - (intOf i).toNat)
  case atStart => exact ⟨0, by omega, rfl, World.ownsRow_nil _ _ _ _, Below.refl _ _⟩
  case round =>
    obtain ⟨k, hk, rfl, ho, hb⟩ := hrel
    obtain ⟨p, cp, rfl⟩ := owns_slice ho
    by_cases hlt : k < n
    · have hlt' : (k : Int) < (n : Int) := by omega
      obtain ⟨a, ha⟩ : ∃ a, ks[k]? = some a := ⟨ks[k]'(by rw [hn.out]; exact hlt), by simp⟩
      have hc := cell_below hb (HR.out k a ha)
      have HA := hid ha
      clear ha
      go_wp2_with (at_builtin; refine wpList_append_lies _ rfl _ _ 46 rfl w.heap.size 50 i0 .nilIface 1 16 Try.underlying46 hi hz0 hz1 hz2 rfl (by decide) _ _ _ rfl (ho.alloc _) ⟨wr.heap.size, 0, none⟩ 1 1 [Pa.v g (.num a (-1000) 1000)] rfl rfl (World.news_of_block (heap_alloc_new _ _)) (one_cell _ _) (by decide) (by unfold maxLen; omega) (by omega) (by have := hb.size; simp; omega) (wr.heap.size + 1) (by simp) ?_)
      intro g' cap' w4 hown hgrow hat hg4
      go_wp2_with fail
      go_roundw
      case rel =>
        refine ⟨k + 1, by omega, by go_num, ?_, (hb.alloc (by have := hb.size; omega) _).grown hgrow (by have := hb.size; simp; omega) (fun k hk => by have := (ho.lt k hk).1; omega)⟩
        rw [List.take_add_one, HA.out]
        simpa using hown
      case measure => simp [intOf]; omega
    · obtain rfl : k = n := by omega
      have hlt' : ¬ (k : Int) < (k : Int) := by omega
      go_wp2_with fail
      go_ret
      refine ⟨_, rfl, ?_, hb⟩
      rw [List.take_of_length_le (by rw [hn.out]; omega)] at ho
      unfold RowP
      rw [List.length_map, hn.out, List.map_map]
      exact ho
set_option maxHeartbeats 2000000 in
theorem cmd_head {w : World} {g : Nat} (hg : g < w.heap.size) :
    Calls Try.prog 24 #[.pointer (some ⟨g, 0, none⟩)] w fun e w' => ∃ p cap, e = .returned (.slice p 3 cap) ∧ RowP w' w.heap.size g (.slice p 3 cap) headP ∧ Below w.heap.size w w' := by
  go_enter Try.func24, Try.ntmps24
  go_wp2_with fail
  go_region
  go_wp2_with fail
  go_ret
  exact ⟨_, _, rfl, World.ownsRow_lit (base := w.heap.size) (e := 50) (size := 1) w.drew #[Pa.v g (.num 0 1 8), Pa.v g (.num 16 0 3), Pa.v g (.num 17 0 1000000)] 3 (Nat.le_refl _) (by decide) rfl, (below1 _ _).drew⟩
set_option maxHeartbeats 2000000 in
theorem cmd_record {w : World} {g : Nat} (hg : g < w.heap.size) :
    Calls Try.prog 27 #[.pointer (some ⟨g, 6, none⟩)] w fun e w' => ∃ p cap, e = .returned (.slice p 4 cap) ∧ RowP w' w.heap.size g (.slice p 4 cap) [.fld 6, .fld 8, .fld 10, .fld 12] ∧ Below w.heap.size w w' := by
  obtain ⟨i0, hi, hz0, hz1, hz2⟩ := info_parts Try.infoPt
  go_enter Try.func27, Try.ntmps27
  go_wp2_with fail
  go_loopw [3, 5] (fun l i wr => ∃ k : Nat, k ≤ 4 ∧ i = .int .i64 k ∧ wr.ownsRow w.heap.size 50 1 l k (([.fld 6, .fld 8, .fld 10, .fld 12].take k).map (Pa.v g)) ∧ Below w.heap.size w wr) (fun _ i _ => 4 - (intOf i).toNat)
  case atStart => exact ⟨0, by omega, rfl, World.ownsRow_nil _ _ _ _, Below.refl _ _⟩
  case round =>
    obtain ⟨k, hk, rfl, ho, hb⟩ := hrel
    obtain ⟨p, cp, rfl⟩ := owns_slice ho
    obtain rfl | rfl | rfl | rfl | rfl : k = 0 ∨ k = 1 ∨ k = 2 ∨ k = 3 ∨ k = 4 := by omega
    · go_wp2_with (at_builtin; refine wpList_append_lies _ rfl _ _ 46 rfl w.heap.size 50 i0 .nilIface 1 16 Try.underlying46 hi hz0 hz1 hz2 rfl (by decide) _ _ _ rfl (ho.alloc _) ⟨wr.heap.size, 0, none⟩ 1 1 [Pa.v g (.fld 6)] rfl rfl (World.news_of_block (heap_alloc_new _ _)) (one_cell _ _) (by decide) (by unfold maxLen; omega) (by omega) (by have := hb.size; simp; omega) (wr.heap.size + 1) (by simp) ?_)
      intro g' cap' w4 hown hgrow hat hg4
      go_wp2_with fail
      go_roundw
      case rel => exact ⟨1, by omega, rfl, hown, (hb.alloc (by have := hb.size; omega) _).grown hgrow (by have := hb.size; simp; omega) (fun k hk => by have := (ho.lt k hk).1; omega)⟩
      case measure => simp [intOf]
    · go_wp2_with (at_builtin; refine wpList_append_lies _ rfl _ _ 46 rfl w.heap.size 50 i0 .nilIface 1 16 Try.underlying46 hi hz0 hz1 hz2 rfl (by decide) _ _ _ rfl (ho.alloc _) ⟨wr.heap.size, 0, none⟩ 1 1 [Pa.v g (.fld 8)] rfl rfl (World.news_of_block (heap_alloc_new _ _)) (one_cell _ _) (by decide) (by unfold maxLen; omega) (by omega) (by have := hb.size; simp; omega) (wr.heap.size + 1) (by simp) ?_)
      intro g' cap' w4 hown hgrow hat hg4
      go_wp2_with fail
      go_roundw
      case rel => exact ⟨2, by omega, rfl, hown, (hb.alloc (by have := hb.size; omega) _).grown hgrow (by have := hb.size; simp; omega) (fun k hk => by have := (ho.lt k hk).1; omega)⟩
      case measure => simp [intOf]
    · go_wp2_with (at_builtin; refine wpList_append_lies _ rfl _ _ 46 rfl w.heap.size 50 i0 .nilIface 1 16 Try.underlying46 hi hz0 hz1 hz2 rfl (by decide) _ _ _ rfl (ho.alloc _) ⟨wr.heap.size, 0, none⟩ 1 1 [Pa.v g (.fld 10)] rfl rfl (World.news_of_block (heap_alloc_new _ _)) (one_cell _ _) (by decide) (by unfold maxLen; omega) (by omega) (by have := hb.size; simp; omega) (wr.heap.size + 1) (by simp) ?_)
      intro g' cap' w4 hown hgrow hat hg4
      go_wp2_with fail
      go_roundw
      case rel => exact ⟨3, by omega, rfl, hown, (hb.alloc (by have := hb.size; omega) _).grown hgrow (by have := hb.size; simp; omega) (fun k hk => by have := (ho.lt k hk).1; omega)⟩
      case measure => simp [intOf]
    · go_wp2_with (at_builtin; refine wpList_append_lies _ rfl _ _ 46 rfl w.heap.size 50 i0 .nilIface 1 16 Try.underlying46 hi hz0 hz1 hz2 rfl (by decide) _ _ _ rfl (ho.alloc _) ⟨wr.heap.size, 0, none⟩ 1 1 [Pa.v g (.fld 12)] rfl rfl (World.news_of_block (heap_alloc_new _ _)) (one_cell _ _) (by decide) (by unfold maxLen; omega) (by omega) (by have := hb.size; simp; omega) (wr.heap.size + 1) (by simp) ?_)
      intro g' cap' w4 hown hgrow hat hg4
      go_wp2_with fail
      go_roundw
      case rel => exact ⟨4, by omega, rfl, hown, (hb.alloc (by have := hb.size; omega) _).grown hgrow (by have := hb.size; simp; omega) (fun k hk => by have := (ho.lt k hk).1; omega)⟩
      case measure => simp [intOf]
    · go_wp2_with fail
      go_ret
      exact ⟨_, _, rfl, ho, hb⟩
end Go.Proofs.Ytfcofhlcainanaa
