/- Contract of Bytes of the package note. -/
import Derived.Test.YtpedngbjpbeanaaGreatDoorNtI
import Derived.Test.YtpedngbjpbeanaaGreatDoorNtU
import Derived.Test.YtpedngbjpbeanaaGreatDoorNtV
import Derived.Test.YtpedngbjpbeanaaGreatDoorNtX
namespace Go.Proofs.YtpedngbjpbeanaaGreatDoor
open Go.RowKit
set_option linter.unusedVariables false
set_option maxRecDepth 100000
def fN (n : Nt) (p : Pt) : List UInt8 :=
  match p.2 with
  | 0 => put n.fr.toNat
  | 1 => put n.be.toNat
  | 2 => lstB thB n.mo
  | 3 => lstB handB n.ha
  | 4 => lstB thB n.gi
  | _ => lstB cmB n.wa
theorem fN_all (n : Nt) : ntPs.flatMap (fN n) = noteB n := by simp [ntPs, fN, noteB]
theorem ask_of {n : Nt} (h : FitN n) (hl : LenN n) : AskN n := ⟨h.mo, h.gi, fun c hc => fit_sized (h.wa c hc), hl⟩
theorem note_tells {W : World} {n : Nt} {s : Ns} {g : Nat} (hA : W.heap[g]? = some (n.o s)) (hr : RowN W s n) (hf : FitN n) (hg : GoodN n) : ∀ p ∈ ntPs, TellsP W g (fN n) p ∧ (fN n p).length ≤ 60000 := by
  have cA := (cells_at hA).1
  have c0 : W.cell? ⟨g, 0, none⟩ = some (.int .i64 n.fr) := by rw [cA]; rfl
  have c1 : W.cell? ⟨g, 1, none⟩ = some (.int .i64 n.be) := by rw [cA]; rfl
  have c2 : W.cell? ⟨g, 2, none⟩ = some (.slice s.pm n.mo.length s.cm) := by rw [cA]; rfl
  have c3 : W.cell? ⟨g, 3, none⟩ = some (.slice s.ph n.ha.length s.ch) := by rw [cA]; rfl
  have c4 : W.cell? ⟨g, 4, none⟩ = some (.slice s.pg n.gi.length s.cg) := by rw [cA]; rfl
  have c5 : W.cell? ⟨g, 5, none⟩ = some (.slice s.pw n.wa.length s.cw) := by rw [cA]; rfl
  obtain ⟨g1, g2, g3, g4, g5, g6, g7⟩ := hg
  have l0 := (put_length n.fr.toNat).2
  have l1 := (put_length n.be.toNat).2
  have l2 := lstB_len (f := thB) (m := 168) (L := n.mo) (fun t ht => thB_len (g3.2 t ht))
  have l4 := lstB_len (f := thB) (m := 168) (L := n.gi) (fun t ht => thB_len (g5.2 t ht))
  have l3 := lstB_len (f := handB) (m := 20) (L := n.ha) (fun t ht => handB_len t)
  have l5 := lstB_len (f := cmB) (m := 288) (L := n.wa) (fun t ht => cmB_len (g6.2 t ht).1)
  intro p hp
  simp only [ntPs, List.mem_cons, List.not_mem_nil, or_false] at hp
  rcases hp with rfl | rfl | rfl | rfl | rfl | rfl
  · exact ⟨fun w' hb => nm_told w' (cell_below hb c0) (by omega) (by omega), by show (put n.fr.toNat).length ≤ _; omega⟩
  · exact ⟨fun w' hb => nm_told w' (cell_below hb c1) (by omega) (by omega), by show (put n.be.toNat).length ≤ _; omega⟩
  · exact ⟨fun w' hb => th_told (cell_below hb c2) (hid rfl) (hr.mo.later hb) (fun t ht => ⟨hf.mo t ht, g3.2 t ht⟩) (by omega), by show (lstB thB n.mo).length ≤ _; omega⟩
  · exact ⟨fun w' hb => hd_told (cell_below hb c3) (hid rfl) (hr.ha.later hb) (fun t ht => by obtain ⟨a, b⟩ := g4 t ht; exact ⟨⟨a.1, by omega⟩, b.1, by omega⟩) (by omega), by show (lstB handB n.ha).length ≤ _; omega⟩
  · exact ⟨fun w' hb => th_told (cell_below hb c4) (hid rfl) (hr.gi.later hb) (fun t ht => ⟨hf.gi t ht, g5.2 t ht⟩) (by omega), by show (lstB thB n.gi).length ≤ _; omega⟩
  · exact ⟨fun w' hb => cm_told (cell_below hb c5) (hid rfl) (hr.wa.later hb) (fun t ht => ⟨hf.wa t ht, (g6.2 t ht).1⟩) (by omega), by show (lstB cmB n.wa).length ≤ _; omega⟩
theorem is_at {w : World} (hM : Masks w) {n : Nt} {s : Ns} {k : Int} {R : Bool} (hr : RowN w s n) (ha : AskN n) (hR : Hid (isN n k = R)) (w' : World) (hb : Below w.heap.size w w') :
    Calls Tryz.prog 9 #[n.v s, .int .i64 k] w' fun e w'' => e = .returned (.bool R) ∧ Below w'.heap.size w' w'' := note_is (hM.below hb) (hr.later hb) ha hR
set_option maxHeartbeats 1000000 in
theorem note_bytes {w : World} (hM : Masks w) {n : Nt} {s : Ns} {B : List UInt8} {e : Nat} (hr : RowN w s n) (hf : FitN n) (hl : LenN n) (h : Hid (bytesN n = (B, e))) :
    Calls Tryz.prog 7 #[n.v s] w fun x w' => x = .returned (.tuple #[.string ⟨B.toArray⟩, .int .i64 e]) ∧ Below w.heap.size w w' := by
  obtain ⟨W, hW⟩ : ∃ W, W = w.alloc (n.o s) := ⟨_, rfl⟩
  have hB : Below w.heap.size w W := by rw [hW]; exact below1 _ _
  have hA := hid (show W.heap[w.heap.size]? = some (n.o s) by rw [hW]; exact new_at _ _ _ rfl)
  obtain ⟨R, hR⟩ : ∃ R, Hid (isN n 4 = R) := ⟨_, rfl⟩
  have C1 := is_at hM hr (ask_of hf hl) hR
  have HR := hid hr
  have HF := hid hf
  clear hM hr hf hl
  have cA := (cells_at hA.out).1
  have lA := at_lt hA.out
  go_enter Tryz.func7, Tryz.ntmps7
  go_upto_region 1 with fail
  rw [← hW]
  clear hW
  go_wp2_with fail
  refine (C1 _ hB).mono ?_
  rintro x W1 ⟨rfl, hb1⟩
  have hA1 := hid (var_on hb1 hA.out lA)
  have hB1 := below_on hB hb1
  clear hb1 hB hA cA lA C1
  have e1 := h.out
  unfold bytesN at e1
  cases R
  · rw [if_neg (by rw [hR.out]; simp)] at e1
    simp only [Prod.mk.injEq] at e1
    obtain ⟨rfl, rfl⟩ := e1
    go_wp2_with fail
    exact bodyPost_ret (v := .tuple #[.string ⟨#[]⟩, .int .i64 11]) (by simp [results, Tryz.results7, go_sem]) rfl ⟨rfl, hB1⟩
  rw [if_pos hR.out] at e1
  have hg := good_of hR.out
  have HG := hid hg
  have lN := noteB_len hg
  have g3 := hg.mo.1
  have g5 := hg.gi.1
  have g6 := hg.wa.1
  have g7 := hg.hn
  have lA1 := at_lt hA1.out
  obtain ⟨T, hT⟩ : ∃ T, Hid (noteB n = T) := ⟨_, rfl⟩
  rw [hT.out] at e1 lN
  have lT : T.length ≤ 73700 := by omega
  have E1 := hid e1
  clear e1 lN g3 g5 g6 g7 hg
  go_wp2_with fail
  refine (note_parts lA1).mono ?_
  rintro x W2 ⟨b, cap, rfl, hq, hb2⟩
  have hA2 := var_on hb2 hA1.out lA1
  have hB2 := below_on hB1 hb2
  have C := note_told hq (hid rfl) (hid (show ntPs.flatMap (fN n) = T by rw [fN_all]; exact hT.out)) (note_tells hA2 (HR.out.later hB2) HF.out HG.out) (by omega)
  clear hb2 hB1 hA1 hA2 hq lA1
  go_wp2_with fail
  refine C.mono ?_
  rintro x W3 ⟨rfl, hb3⟩
  have hB3 := below_on hB2 hb3
  clear hb3 hB2 C
  have e1 := E1.out
  by_cases hlt : 40000 < T.length
  · rw [if_pos hlt] at e1
    simp only [Prod.mk.injEq] at e1
    obtain ⟨rfl, rfl⟩ := e1
    have d0 : decide ((40000 : Int) < (T.length : Int)) = true := by simp; omega
    go_wp2_with fail
    exact bodyPost_ret (v := .tuple #[.string ⟨#[]⟩, .int .i64 13]) (by simp [results, Tryz.results7, go_sem]) rfl ⟨rfl, hB3⟩
  · rw [if_neg hlt] at e1
    simp only [Prod.mk.injEq] at e1
    obtain ⟨e2, rfl⟩ := e1
    have d0 : decide ((40000 : Int) < (T.length : Int)) = false := by simp; omega
    have HE := hid (show B = wrap (ByteArray.mk T.toArray).data.toList by rw [← e2])
    clear e2
    have hsz : (ByteArray.mk T.toArray).size ≤ 140737488355328 := by show T.toArray.size ≤ _; simp; omega
    have C := fun w => wrap_at HE hsz w
    go_wp2_with fail
    refine (C _).mono ?_
    rintro x W4 ⟨rfl, hb4⟩
    have hB4 := below_on hB3 hb4
    go_wp2_with fail
    exact bodyPost_ret (v := .tuple #[.string ⟨B.toArray⟩, .int .i64 0]) (by simp [results, Tryz.results7, go_sem]) rfl ⟨rfl, hB4⟩
end Go.Proofs.YtpedngbjpbeanaaGreatDoor
