/- Contracts of the document's tree over this translation: In, deep, Depth; and of the statements' same. Each returns what the plain functions say, and changes nothing that was there. -/
import Derived.Test.YtildhbkcpehobaaGreatDoorQdS
import Derived.Test.YtildhbkcpehobaaGreatDoorQd7
namespace Go.Proofs.YtildhbkcpehobaaGreatDoor
open Go.RowKit
set_option linter.unusedVariables false
def rinL (L : List Mk) (r : Rc) : List Int := (L.filter fun m => inB r m.x m.y).map Mk.id
theorem rin_yes {r : Rc} {l : List Mk} {j : Nat} {a : Mk} (h : l[j]? = some a) (hq : inB r a.x a.y = true) : rinL (l.take (j + 1)) r = rinL (l.take j) r ++ [a.id] := by
  rw [List.take_add_one, h]
  simp [rinL, hq]
theorem rin_no {r : Rc} {l : List Mk} {j : Nat} {a : Mk} (h : l[j]? = some a) (hq : inB r a.x a.y = false) : rinL (l.take (j + 1)) r = rinL (l.take j) r := by
  rw [List.take_add_one, h]
  simp [rinL, hq]
theorem rin_le (l : List Mk) (r : Rc) : (rinL l r).length ≤ l.length := by
  unfold rinL
  rw [List.length_map]
  exact List.length_filter_le _ _
theorem rin_at {r0 r1 r2 r3 x y : Int} {q : Bool} (h : Hid (inB ⟨r0, r1, r2, r3⟩ x y = q)) (w : World) : Calls Tryz.prog 51 #[rc r0 r1 r2 r3, pt x y] w fun e w' => e = .returned (.bool q) ∧ Below w.heap.size w w' := by
  rw [← h.out]; exact ref_in w r0 r1 r2 r3 x y
def qR (r : Rc) (i : Nat) : Rc := ⟨r.x0 + (i % 2 : Nat) * ((r.x1 - r.x0) / 2), r.y0 + (i / 2 : Nat) * ((r.x1 - r.x0) / 2), r.x0 + (i % 2 : Nat) * ((r.x1 - r.x0) / 2) + (r.x1 - r.x0) / 2, r.y0 + (i / 2 : Nat) * ((r.x1 - r.x0) / 2) + (r.x1 - r.x0) / 2⟩
/-- how deep the document's tree is from a square of depth d on, k levels being left -/
def rdp (L : List Mk) : Nat → Rc → Nat → Nat
  | 0, _, d => d
  | k + 1, r, d => if (rinL L r).length ≤ 4 then d else max (max (max (max d (rdp L k (qR r 0) (d + 1))) (rdp L k (qR r 1) (d + 1))) (rdp L k (qR r 2) (d + 1))) (rdp L k (qR r 3) (d + 1))
def upto (f : Nat → Nat) (d : Nat) : Nat → Nat
  | 0 => d
  | k + 1 => max (upto f d k) (f k)
structure okR (r : Rc) : Prop where
  a : 0 ≤ r.x0
  b : r.x0 ≤ r.x1
  c : r.x1 ≤ 64
  d : 0 ≤ r.y0
  e : r.y0 + (r.x1 - r.x0) ≤ 64
theorem okR_q {r : Rc} (h : okR r) {i : Nat} (hi : i < 4) : okR (qR r i) := by
  obtain ⟨a, b, c, d, e⟩ := h
  have h4 : i = 0 ∨ i = 1 ∨ i = 2 ∨ i = 3 := by omega
  rcases h4 with rfl | rfl | rfl | rfl <;> (constructor <;> simp only [qR] <;> omega)
theorem rdp_le (L : List Mk) : ∀ k r d, rdp L k r d ≤ d + k
  | 0, r, d => Nat.le_refl _
  | k + 1, r, d => by
    have h := fun i => rdp_le L k (qR r i) (d + 1)
    have h0 := h 0
    have h1 := h 1
    have h2 := h 2
    have h3 := h 3
    unfold rdp
    split
    · omega
    · omega
theorem rdp_upto (L : List Mk) (k : Nat) (r : Rc) (d : Nat) (h : ¬ (rinL L r).length ≤ 4) : rdp L (k + 1) r d = upto (fun i => rdp L k (qR r i) (d + 1)) d 4 := by
  rw [rdp, if_neg h]
  rfl
theorem upto_le {f : Nat → Nat} {d B : Nat} (hd : d ≤ B) (hf : ∀ i, f i ≤ B) : ∀ k, upto f d k ≤ B
  | 0 => hd
  | k + 1 => by
    have := upto_le hd hf k
    have := hf k
    unfold upto
    omega
theorem int_at {w : World} {p : Option Addr} {L : List Int} (h : RowG cI 1 w p L) {k : Nat} {a : Int} (hk : L[k]? = some a) : ∃ b off, p = some ⟨b, off, none⟩ ∧ w.cell? ⟨b, off + k, none⟩ = some (.int .i64 a) := by
  obtain ⟨b, off, hp, hc⟩ := h.at hk
  refine ⟨b, off, hp, ?_⟩
  have := hc 0 _ rfl
  simpa using this
end Go.Proofs.YtildhbkcpehobaaGreatDoor
