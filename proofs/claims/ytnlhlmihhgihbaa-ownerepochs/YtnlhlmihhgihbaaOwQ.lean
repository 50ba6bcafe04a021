/- Whose cells, plain: owners that there may be behind so many hands; what a hand leaves; cells of a row that comes in behind calls. -/
import Derived.Test.YtnlhlmihhgihbaaKnown13
import Derived.Test.YtnlhlmihhgihbaaOwO
import Derived.Deep.RegionHeld3
namespace Go.Proofs.Ytnlhlmihhgihbaa
open Go.RowKit
set_option linter.unusedVariables false
/-- owners that there may be of n servers, epochs at most B -/
def okE (n B : Int) (L : List Ow) : Prop := ∀ (k : Nat) (o : Ow), L[k]? = some o → isSrv n o.s = true ∧ 0 ≤ o.e ∧ o.e ≤ B
theorem okE_mono {n B C : Int} {L : List Ow} (h : okE n B L) (hb : B ≤ C) : okE n C L := fun k o ho => ⟨(h k o ho).1, (h k o ho).2.1, Int.le_trans (h k o ho).2.2 hb⟩
theorem dealt_at (k : Int) {n : Nat} (h : n < 16) : (dealt k)[n]? = some ⟨(n : Int) % k, 0⟩ := by
  simp [dealt, List.getElem?_map, List.getElem?_range h]
theorem okE_dealt {n : Int} (h1 : 1 ≤ n) : okE n 0 (dealt n) := by
  intro k o ho
  have hk : k < 16 := by have := (List.getElem?_eq_some_iff.1 ho).1; rwa [dealt_len] at this
  rw [dealt_at n hk] at ho
  simp only [Option.some.injEq] at ho
  subst ho
  refine ⟨?_, Int.le_refl _, Int.le_refl _⟩
  unfold isSrv
  have h2 := Int.emod_nonneg (k : Int) (show n ≠ 0 by omega)
  have h3 := Int.emod_lt_of_pos (k : Int) (show 0 < n by omega)
  simp
  omega
theorem okE_all {n B : Int} {L : List Ow} (h : okE n B L) (hb : B ≤ 1073741824) : L.all (okO n) = true := by
  rw [List.all_eq_true]
  intro o ho
  obtain ⟨k, hk, rfl⟩ := List.mem_iff_getElem.1 ho
  obtain ⟨h1, h2, h3⟩ := h k _ (List.getElem?_eq_getElem hk)
  unfold okO
  rw [h1]
  simp
  omega
/-- what there is of a hand that is done -/
theorem hand_done {n : Int} {L : List Ow} {c f u : Int} (h : handE n L c f u = 0) (hl : L.length = 16) : ∃ k o, c = ((k : Nat) : Int) ∧ k < 16 ∧ L[k]? = some o ∧ o.s = f ∧ isSrv n u = true ∧ ¬ u = f ∧ handL n L c f u = L.set k ⟨u, wrap64 (o.e + 1)⟩ := by
  unfold handE at h
  by_cases h1 : isCell c = false
  · rw [if_pos h1] at h; omega
  · rw [if_neg h1] at h
    by_cases h2 : isSrv n u = false
    · rw [if_pos h2] at h; omega
    · rw [if_neg h2] at h
      by_cases h3 : (atO L c).s = f
      · rw [if_neg (fun k => k h3)] at h
        by_cases h4 : u = f
        · rw [if_pos h4] at h; omega
        · obtain ⟨k, rfl, hk⟩ := cell_nat (c := c) (by simpa using h1)
          obtain ⟨o, ho⟩ := get_some L k (by omega)
          rw [at_nat ho] at h3
          exact ⟨k, o, rfl, hk, ho, h3, by simpa using h2, h4, handL_ok (handE_ok (by simpa using h1) (by simpa using h2) (by rw [at_nat ho]; exact h3) h4) ho⟩
      · rw [if_pos h3] at h; omega
theorem okE_hand {n B : Int} {L : List Ow} (h : okE n B L) (hl : L.length = 16) (h0 : 0 ≤ B) (hb : B ≤ 1000) (c f u : Int) : okE n (B + 1) (handL n L c f u) := by
  by_cases he : handE n L c f u = 0
  · obtain ⟨k, o, -, hk, ho, -, h2, -, h3⟩ := hand_done he hl
    rw [h3]
    obtain ⟨h4, h5, h6⟩ := h k o ho
    have hw : wrap64 (o.e + 1) = o.e + 1 := by unfold wrap64; omega
    intro i p hp
    by_cases e : k = i
    · subst e
      rw [List.getElem?_set_self (by omega)] at hp
      simp only [Option.some.injEq] at hp
      subst hp
      exact ⟨h2, by show 0 ≤ wrap64 (o.e + 1); omega, by show wrap64 (o.e + 1) ≤ B + 1; omega⟩
    · rw [List.getElem?_set_ne e] at hp
      obtain ⟨g1, g2, g3⟩ := h i p hp
      exact ⟨g1, g2, by omega⟩
  · rw [handL_bad rfl he]
    exact okE_mono h (by omega)
/-! rows that come in, behind calls -/
theorem cell_but {W W' : World} {g b o : Nat} {v : Value} (h : W.cell? ⟨b, o, none⟩ = some v) (hb : But g W W') (hg : b ≠ g) : W'.cell? ⟨b, o, none⟩ = some v := by
  have hl : b < W.heap.size := by
    rcases Nat.lt_or_ge b W.heap.size with h2 | h2
    · exact h2
    · unfold World.cell? at h
      simp [Array.getElem?_eq_none h2] at h
  rw [← h]
  unfold World.cell?
  simp only
  rw [hb.block b hl hg]
theorem hands_at {w : World} {p : Option Addr} {L : List Hd} (h : RowG Hd.cs 3 w p L) {k : Nat} {a : Hd} (hk : L[k]? = some a) : ∃ b off, p = some ⟨b, off, none⟩ ∧ b < w.heap.size ∧ ∀ W, Below w.heap.size w W → cells3 W b (off + k * 3) (.int .i64 a.c) (.int .i64 a.f) (.int .i64 a.u) := by
  obtain ⟨b, off, hp, h1, h2, h3⟩ := hd_at h hk
  have hl : b < w.heap.size := by
    rcases Nat.lt_or_ge b w.heap.size with h4 | h4
    · exact h4
    · unfold World.cell? at h1
      simp [Array.getElem?_eq_none h4] at h1
  exact ⟨b, off, hp, hl, fun W hb => ⟨cell_below hb h1, cell_below hb h2, cell_below hb h3⟩⟩
theorem RowA.cell {W : World} {b : Nat} {L : List Ow} (h : RowA W b 0 L) {k : Nat} {o : Ow} (hk : L[k]? = some o) : W.cell? ⟨b, k * 2, none⟩ = some (.int .i64 o.s) ∧ W.cell? ⟨b, k * 2 + 1, none⟩ = some (.int .i64 o.e) := by
  have := h.at_ k o hk
  rwa [Nat.zero_add] at this
/-- a hand of the reference, its error and its owners under names -/
theorem ref_hand_at {w : World} {g : Nat} {t : TypeId} {n : Int} {L M : List Ow} {e c f u : Int} (h : MB w g t n L) (he : handE n L c f u = e) (hm : handL n L c f u = M) :
    Calls Try.prog 13 #[.pointer (some ⟨g, 0, none⟩), .int .i64 c, .int .i64 f, .int .i64 u] w fun x w' => x = .returned (.int .i64 e) ∧ MB w' g t n M ∧ But g w w' :=
  (ref_hand h c f u).mono fun x w' ⟨h1, h2, h3⟩ => ⟨by rw [h1, he], by rw [← hm]; exact h2, h3⟩
theorem MB.drew0 {w w' : World} {g : Nat} {t : TypeId} {a : Int} {L : List Ow} (h : MB w g t a L) (hb : Below w.heap.size w w') : MB w' g t a L := h.later hb
theorem own_some {W : World} {base : Nat} {e : TypeId} {size : Nat} {p : Option Addr} {n cap : Nat} {xs : List Value} (h : W.ownsRow base e size (.slice p n cap) n xs) (hn : 0 < n) : ∃ g, p = some ⟨g, 0, none⟩ := by
  rcases h.2 with ⟨h', h0⟩ | ⟨g, cap', cur, h', _⟩
  · omega
  · simp only [Value.slice.injEq] at h'
    exact ⟨g, h'.1⟩
theorem row_int {W : World} {base g n cap : Nat} {e : TypeId} {L : List Nat} (h : W.ownsRow base e 1 (.slice (some ⟨g, 0, none⟩) n cap) n (vals L)) {k c : Nat} (hk : L[k]? = some c) (hn : n = L.length) : W.cell? ⟨g, k, none⟩ = some (.int .i64 (c : Nat)) := by
  have hlt : k < n := by rw [hn]; exact (List.getElem?_eq_some_iff.1 hk).1
  rw [h.cellAt k (by omega)]
  simp [vals, hk]
end Go.Proofs.Ytnlhlmihhgihbaa
