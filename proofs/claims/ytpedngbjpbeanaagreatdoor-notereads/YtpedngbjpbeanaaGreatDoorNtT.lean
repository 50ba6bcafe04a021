/- Parts of a note in memory; contracts of the numbers' methods, of parts, members, told of the package note. -/
import Derived.Test.YtpedngbjpbeanaaGreatDoorNtA
import Derived.BigRegion
namespace Go.Proofs.YtpedngbjpbeanaaGreatDoor
open Go.RowKit
set_option linter.unusedVariables false
set_option maxRecDepth 100000
/-- a part: its kind (0 a number, 1 things, 2 hands, else commands), its cell -/
abbrev Pt : Type := Nat × Nat
abbrev nmV (g k : Nat) : Value := .agg #[.pointer (some ⟨g, k, none⟩)]
abbrev thV (g k : Nat) : Value := .agg #[.pointer (some ⟨g, k, none⟩), .func (.func 42) #[] #[], .func (.func 43) #[] #[]]
abbrev hdV (g k : Nat) : Value := .agg #[.pointer (some ⟨g, k, none⟩), .func (.func 44) #[] #[], .func (.func 45) #[] #[]]
abbrev cmV (g k : Nat) : Value := .agg #[.pointer (some ⟨g, k, none⟩), .func (.func 46) #[] #[], .func (.func 47) #[] #[]]
abbrev nmO (g k : Nat) : Obj := .cells #[.pointer (some ⟨g, k, none⟩)] 90 (0, 0)
abbrev thO (g k : Nat) : Obj := .cells #[.pointer (some ⟨g, k, none⟩), .func (.func 42) #[] #[], .func (.func 43) #[] #[]] 95 (0, 0)
abbrev hdO (g k : Nat) : Obj := .cells #[.pointer (some ⟨g, k, none⟩), .func (.func 44) #[] #[], .func (.func 45) #[] #[]] 100 (0, 0)
abbrev cmO (g k : Nat) : Obj := .cells #[.pointer (some ⟨g, k, none⟩), .func (.func 46) #[] #[], .func (.func 47) #[] #[]] 105 (0, 0)
def ptV (g : Nat) (p : Pt) : Value :=
  match p.1 with
  | 0 => .iface 90 (nmV g p.2)
  | 1 => .iface 95 (thV g p.2)
  | 2 => .iface 100 (hdV g p.2)
  | _ => .iface 105 (cmV g p.2)
def hdPs : List Pt := [(0, 0), (0, 1)]
def ntPs : List Pt := [(0, 0), (0, 1), (1, 2), (2, 3), (1, 4), (3, 5)]
/-- a row of parts that the call made -/
def RowQ (W : World) (base g : Nat) (v : Value) (L : List Pt) : Prop := W.ownsRow base 86 1 v L.length (L.map (ptV g))
theorem RowQ.on {W W' : World} {base g : Nat} {v : Value} {L : List Pt} (h : RowQ W base g v L) (hb : Below W.heap.size W W') : RowQ W' base g v L := owns_on h hb
theorem partQ_at {W : World} {base g b n cap k : Nat} {L : List Pt} {p : Pt} (h : RowQ W base g (.slice (some ⟨b, 0, none⟩) n cap) L) (hk : L[k]? = some p) : W.cell? ⟨b, k, none⟩ = some (ptV g p) := by
  unfold RowQ at h
  have hn : n = L.length := by
    rcases h.2 with ⟨h1, h0⟩ | ⟨g2, cap', cur, h1, _⟩
    · simp only [Value.slice.injEq] at h1
      exact absurd h1.1 (by simp)
    · simp only [Value.slice.injEq] at h1
      exact h1.2.1
  subst hn
  have := owns_read h k (ptV g p) (by rw [List.getElem?_map, hk]; rfl)
  exact this
theorem RowQ.some {W : World} {base g n cap : Nat} {q : Option Addr} {L : List Pt} (h : RowQ W base g (.slice q n cap) L) (hn : 0 < n) : ∃ b, q = some ⟨b, 0, none⟩ := by
  rcases h.2 with ⟨h1, h0⟩ | ⟨g2, cap', cur, h1, _⟩
  · simp only [Value.slice.injEq] at h1
    omega
  · simp only [Value.slice.injEq] at h1
    exact ⟨g2, h1.1⟩
theorem note_members {w : World} {g : Nat} (hg : g < w.heap.size) :
    Calls Tryz.prog 72 #[.pointer (some ⟨g, 0, none⟩)] w fun e w' => ∃ b cap, e = .returned (.slice (some ⟨b, 0, none⟩) 2 cap) ∧ RowQ w' w.heap.size g (.slice (some ⟨b, 0, none⟩) 2 cap) hdPs ∧ Below w.heap.size w w' := by
  go_enter Tryz.func72, Tryz.ntmps72
  go_wp2_with fail
  go_region
  go_wp2_with fail
  go_ret
  exact ⟨_, _, rfl, World.ownsRow_lit (base := w.heap.size) (e := 86) (size := 1) w.drew #[ptV g (0, 0), ptV g (0, 1)] 2 (Nat.le_refl _) (by decide) rfl, (below1 _ _).drew⟩
set_option maxHeartbeats 4000000 in
theorem note_parts {w : World} {g : Nat} (hg : g < w.heap.size) :
    Calls Tryz.prog 19 #[.pointer (some ⟨g, 0, none⟩)] w fun e w' => ∃ b cap, e = .returned (.slice (some ⟨b, 0, none⟩) 6 cap) ∧ RowQ w' w.heap.size g (.slice (some ⟨b, 0, none⟩) 6 cap) ntPs ∧ Below w.heap.size w w' := by
  go_enter Tryz.func19, Tryz.ntmps19
  go_wp2_with fail
  go_region
  go_wp2_with fail
  go_ret
  exact ⟨_, _, rfl, World.ownsRow_lit (base := w.heap.size) (e := 86) (size := 1) w.drew #[ptV g (0, 0), ptV g (0, 1), ptV g (1, 2), ptV g (2, 3), ptV g (1, 4), ptV g (3, 5)] 6 (Nat.le_refl _) (by decide) rfl, (below1 _ _).drew⟩
theorem nm_told (w : World) {g k : Nat} {x : Int} (h : w.cell? ⟨g, k, none⟩ = some (.int .i64 x)) (h0 : 0 ≤ x) (h1 : x ≤ 9223372036854775807) :
    Calls Tryz.prog 116 #[nmV g k] w fun e w' => e = .returned (.string ⟨(put x.toNat).toArray⟩) ∧ Below w.heap.size w w' := by
  have hg : g < w.heap.size := World.block_lt_of_cell? w _ h
  obtain ⟨n, rfl⟩ := Int.eq_ofNat_of_zero_le h0
  obtain ⟨L, hL⟩ : ∃ L, Hid (L = put n) := ⟨_, rfl⟩
  rw [show ((n : Nat) : Int).toNat = n from rfl, ← hL.out]
  have h2 : n ≤ 18446744073709551615 := by omega
  go_enter Tryz.func116, Tryz.ntmps116
  go_wp2_with fail
  refine (put_at hL h2 _).mono ?_
  rintro x w2 ⟨rfl, hb⟩
  go_wp2_with fail
  go_ret
  exact ⟨rfl, below_on (below1 _ _) hb⟩
/-- a number's take: what it lays where it lay -/
theorem nm_take {w : World} {g k : Nat} {cs : Array Value} {T : TypeId} {v : Value} (h : w.heap[g]? = some (.cells cs T (0, 0))) (hk : cs[k]? = some v) {s : ByteArray} {x : Int} {z e : Nat} (HR : Hid (rdI s.data.toList = (x, z, e))) (hs : s.size ≤ 1000000) :
    Calls Tryz.prog 115 #[nmV g k, .string s] w fun r w' => r = .returned (.tuple #[.int .i64 z, .int .i64 e]) ∧ w'.heap[g]? = some (.cells (cs.setIfInBounds k (.int .i64 x)) T (0, 0)) ∧ But g w w' := by
  have hg : g < w.heap.size := at_lt h
  have hc : w.cell? ⟨g, k, none⟩ = some v := by rw [(cells_at h).1]; exact hk
  have hf : w.frozen? ⟨g, k, none⟩ = false := (cells_at h).2 k
  rcases hG : get s.data.toList with ⟨n, i, y⟩
  obtain ⟨h1, h2, h3, h4, h5⟩ := get_ok hG
  have h2 : i ≤ s.size := h2
  have HG : Hid (get s.data.toList = (n, i, y)) := hG
  have e1 := HR.out
  unfold rdI at e1
  rw [hG] at e1
  simp only [Prod.mk.injEq] at e1
  obtain ⟨rfl, rfl, rfl⟩ := e1
  obtain ⟨x, hx⟩ : ∃ x, Hid (wrap64 (n : Int) = x) := ⟨_, rfl⟩
  rw [hx.out]
  have hS : ((w.setCell ⟨g, k, none⟩ (.int .i64 x)).alloc (nmO g k)).heap[g]? = some (.cells (cs.setIfInBounds k (.int .i64 x)) T (0, 0)) := old_at (set_at h _ rfl) _
  have hB := ((But.refl g w).setCell k (.int .i64 x)).alloc (nmO g k)
  have HH := hid h
  clear h hG hk
  go_enter Tryz.func115, Tryz.ntmps115
  go_wp2_with fail
  refine (get_eq HG (by unfold maxLen; omega) _).mono ?_
  rintro y w2 ⟨rfl, rfl⟩
  go_wp2_with fail
  go_returns
  rw [show wrap64 (n : Int) = x from hx.out]
  exact ⟨rfl, hS, hB⟩
end Go.Proofs.YtpedngbjpbeanaaGreatDoor
