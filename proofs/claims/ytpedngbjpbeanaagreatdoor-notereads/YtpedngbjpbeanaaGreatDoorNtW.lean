/- Contract of told of the package note: a row of parts; of tellHand. -/
import Derived.Test.YtpedngbjpbeanaaGreatDoorNtT
namespace Go.Proofs.YtpedngbjpbeanaaGreatDoor
open Go.RowKit
set_option linter.unusedVariables false
set_option maxRecDepth 100000
/-- which function tells a part -/
def toldF (q : Nat) : Nat :=
  match q with
  | 0 => 116
  | 1 => 118
  | 2 => 120
  | _ => 122
def ptA (g : Nat) (p : Pt) : Value :=
  match p.1 with
  | 0 => nmV g p.2
  | 1 => thV g p.2
  | 2 => hdV g p.2
  | _ => cmV g p.2
/-- a part is told so, whatever is made beside it -/
def TellsP (w : World) (g : Nat) (f : Pt → List UInt8) (p : Pt) : Prop := ∀ w', Below w.heap.size w w' → Calls Tryz.prog (toldF p.1) #[ptA g p] w' fun e w'' => e = .returned (.string ⟨(f p).toArray⟩) ∧ Below w'.heap.size w' w''
set_option maxHeartbeats 2000000 in
theorem note_told {w : World} {g b n cap base : Nat} {L : List Pt} {f : Pt → List UInt8} {S : List UInt8} (hr : RowQ w base g (.slice (some ⟨b, 0, none⟩) n cap) L) (hn : Hid (L.length = n)) (hS : Hid (L.flatMap f = S)) (ht : ∀ p ∈ L, TellsP w g f p ∧ (f p).length ≤ 60000) (hm : n ≤ 10) :
    Calls Tryz.prog 18 #[.slice (some ⟨b, 0, none⟩) n cap] w fun e w' => e = .returned (.string ⟨S.toArray⟩) ∧ Below w.heap.size w w' := by
  have HR := hid hr
  have HI := hid ht
  clear hr ht
  go_enter Tryz.func18, Tryz.ntmps18
  go_wp2_with fail
  go_loopw [3, 8] (fun s i wr => ∃ (j : Nat) (A : List UInt8), j ≤ n ∧ i = .int .i64 j ∧ s = .string ⟨A.toArray⟩ ∧ (L.take j).flatMap f = A ∧ A.length ≤ 60000 * j ∧ Below w.heap.size w wr) (fun _ i _ => n - (intOf i).toNat)
  case atStart => exact ⟨0, [], by omega, rfl, rfl, by simp, by simp, Below.refl _ _⟩
  case round =>
    obtain ⟨j, A, hj, rfl, rfl, hT, hAl, hb⟩ := hrel
    have HT := hid hT
    clear hT
    by_cases hlt : j < n
    · have hlt' : (j : Int) < (n : Int) := by omega
      obtain ⟨p, hp⟩ := get_some L j (by rw [hn.out]; exact hlt)
      have hc0 := partQ_at (RowQ.on HR.out hb) hp
      obtain ⟨hp1, lF⟩ := HI.out p (List.mem_of_getElem? hp)
      have hC := hp1 _ hb
      obtain ⟨F, hF⟩ : ∃ F, Hid (f p = F) := ⟨_, rfl⟩
      have hnx := hid (show (L.take (j + 1)).flatMap f = A ++ F by rw [List.take_add_one, hp, List.flatMap_append, HT.out, ← hF.out]; simp)
      rw [hF.out] at hC lF
      clear hp hp1 hF
      obtain ⟨q, k⟩ := p
      rcases q with _ | _ | _ | q
      · have hc : wr.cell? ⟨b, j, none⟩ = some (.iface 90 (nmV g k)) := hc0
        have hC2 : Calls Tryz.prog 116 #[nmV g k] wr fun e w'' => e = .returned (.string ⟨F.toArray⟩) ∧ Below wr.heap.size wr w'' := hC
        clear hc0 hC
        go_wp2_with fail
        refine hC2.mono ?_
        rintro x w2 ⟨rfl, hb2⟩
        have hB2 := below_on hb hb2
        clear hC2 hb2 hc hb
        go_wp2_with fail
        go_roundw
        case rel => exact ⟨j + 1, A ++ F, by omega, by go_num, by rw [ByteArray.mk_append_mk], hnx.out, by rw [List.length_append]; omega, hB2⟩
        case measure => simp [intOf]; omega
      · have hc : wr.cell? ⟨b, j, none⟩ = some (.iface 95 (thV g k)) := hc0
        have hC2 : Calls Tryz.prog 118 #[thV g k] wr fun e w'' => e = .returned (.string ⟨F.toArray⟩) ∧ Below wr.heap.size wr w'' := hC
        clear hc0 hC
        go_wp2_with fail
        refine hC2.mono ?_
        rintro x w2 ⟨rfl, hb2⟩
        have hB2 := below_on hb hb2
        clear hC2 hb2 hc hb
        go_wp2_with fail
        go_roundw
        case rel => exact ⟨j + 1, A ++ F, by omega, by go_num, by rw [ByteArray.mk_append_mk], hnx.out, by rw [List.length_append]; omega, hB2⟩
        case measure => simp [intOf]; omega
      · have hc : wr.cell? ⟨b, j, none⟩ = some (.iface 100 (hdV g k)) := hc0
        have hC2 : Calls Tryz.prog 120 #[hdV g k] wr fun e w'' => e = .returned (.string ⟨F.toArray⟩) ∧ Below wr.heap.size wr w'' := hC
        clear hc0 hC
        go_wp2_with fail
        refine hC2.mono ?_
        rintro x w2 ⟨rfl, hb2⟩
        have hB2 := below_on hb hb2
        clear hC2 hb2 hc hb
        go_wp2_with fail
        go_roundw
        case rel => exact ⟨j + 1, A ++ F, by omega, by go_num, by rw [ByteArray.mk_append_mk], hnx.out, by rw [List.length_append]; omega, hB2⟩
        case measure => simp [intOf]; omega
      · have hc : wr.cell? ⟨b, j, none⟩ = some (.iface 105 (cmV g k)) := hc0
        have hC2 : Calls Tryz.prog 122 #[cmV g k] wr fun e w'' => e = .returned (.string ⟨F.toArray⟩) ∧ Below wr.heap.size wr w'' := hC
        clear hc0 hC
        go_wp2_with fail
        refine hC2.mono ?_
        rintro x w2 ⟨rfl, hb2⟩
        have hB2 := below_on hb hb2
        clear hC2 hb2 hc hb
        go_wp2_with fail
        go_roundw
        case rel => exact ⟨j + 1, A ++ F, by omega, by go_num, by rw [ByteArray.mk_append_mk], hnx.out, by rw [List.length_append]; omega, hB2⟩
        case measure => simp [intOf]; omega
    · obtain rfl : j = n := by omega
      have hlt' : ¬ (j : Int) < (j : Int) := by omega
      have he := HT.out
      rw [List.take_of_length_le (by rw [hn.out]; omega), hS.out] at he
      subst he
      go_wp2_with fail
      go_ret
      exact ⟨rfl, hb⟩
theorem tell_hand {h : Hd} {F : List UInt8} (hi : inH h) (hF : Hid (handB h = F)) (w : World) :
    Calls Tryz.prog 44 #[h.v] w fun e w' => e = .returned (.tuple #[.string ⟨F.toArray⟩, .int .i64 0]) ∧ Below w.heap.size w w' := by
  obtain ⟨W, hW⟩ : ∃ W, W = w.alloc h.o := ⟨_, rfl⟩
  have hB : Below w.heap.size w W := by rw [hW]; exact below1 _ _
  have hA := hid (show W.heap[w.heap.size]? = some h.o by rw [hW]; exact new_at _ _ _ rfl)
  have lA := at_lt hA.out
  obtain ⟨⟨c0, c1⟩, u0, u1⟩ := hi
  go_enter Tryz.func44, Tryz.ntmps44
  go_upto_region 1 with fail
  rw [← hW]
  clear hW
  go_wp2_with fail
  refine (note_members lA).mono ?_
  rintro x W1 ⟨b, cap, rfl, hr, hb1⟩
  have hA1 := hid (var_on hb1 hA.out lA)
  have hB1 := below_on hB hb1
  have x0 : W1.cell? ⟨w.heap.size, 0, none⟩ = some (.int .i64 h.c) := by rw [(cells_at hA1.out).1]; rfl
  have x1 : W1.cell? ⟨w.heap.size, 1, none⟩ = some (.int .i64 h.u) := by rw [(cells_at hA1.out).1]; rfl
  have lc := (put_length h.c.toNat).2
  have lu := (put_length h.u.toNat).2
  have hT : ∀ p ∈ hdPs, TellsP W1 w.heap.size (fun p : Pt => if p.2 = 0 then put h.c.toNat else put h.u.toNat) p ∧ ((fun p : Pt => if p.2 = 0 then put h.c.toNat else put h.u.toNat) p).length ≤ 60000 := by
    intro p hp
    simp only [hdPs, List.mem_cons, List.not_mem_nil, or_false] at hp
    rcases hp with rfl | rfl
    · exact ⟨fun w' hb => nm_told w' (cell_below hb x0) c0 c1, by show (put h.c.toNat).length ≤ _; omega⟩
    · exact ⟨fun w' hb => nm_told w' (cell_below hb x1) u0 u1, by show (put h.u.toNat).length ≤ _; omega⟩
  have C := note_told hr (hid rfl) (hid (show hdPs.flatMap (fun p : Pt => if p.2 = 0 then put h.c.toNat else put h.u.toNat) = F by rw [← hF.out]; simp [hdPs, handB])) hT (by omega)
  clear hb1 hA hB hA1 x0 x1 hT hr
  go_wp2_with fail
  refine C.mono ?_
  rintro x W2 ⟨rfl, hb2⟩
  have hB2 := below_on hB1 hb2
  go_wp2_with fail
  exact bodyPost_ret (v := .tuple #[.string ⟨F.toArray⟩, .int .i64 0]) (by simp [results, Tryz.results44, go_sem]) rfl ⟨rfl, hB2⟩
end Go.Proofs.YtpedngbjpbeanaaGreatDoor
