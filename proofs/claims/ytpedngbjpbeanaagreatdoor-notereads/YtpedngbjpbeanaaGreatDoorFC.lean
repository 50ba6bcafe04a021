/- Fields, things, deltas as bytes and back; what comes in. -/
import Derived.Test.YtpedngbjpbeanaaGreatDoorFI
import Derived.WalkMore
import Derived.Deep.Cut
import Derived.ChangeOld
import Derived.OpenShut
import Derived.ShutString
namespace Go.Proofs.YtpedngbjpbeanaaGreatDoor
section
open Go.RowKit
set_option linter.unusedVariables false
def told (f : Fl) : List UInt8 := text f.s.data.toList ++ (if f.s.data.toList = [] then put (zig f.n) else [])
def bytesK (d : Dl) : Nat → List UInt8
  | 0 => put d.id.toNat ++ put d.m ++ (if d.m.testBit 0 then put d.x.toNat ++ put d.y.toNat else [])
  | k + 1 => bytesK d k ++ (if d.m.testBit (k + 1) then told (d.f k) else [])
def pairR (l : List UInt8) : Nat × Nat × Nat × Nat :=
  if (get l).2.2 ≠ 0 then (0, 0, 0, (get l).2.2)
  else if (get (l.drop (get l).2.1)).2.2 ≠ 0 then (0, 0, 0, (get (l.drop (get l).2.1)).2.2)
  else ((get l).1, (get (l.drop (get l).2.1)).1, (get l).2.1 + (get (l.drop (get l).2.1)).2.1, 0)
def headR (l : List UInt8) : Dl × Nat × Nat :=
  if (pairR l).2.2.2 ≠ 0 then (zD, 0, (pairR l).2.2.2)
  else if 1000000 < (pairR l).1 ∨ (pairR l).2.1 = 0 ∨ 31 < (pairR l).2.1 then (zD, 0, 11)
  else (⟨(pairR l).1, (pairR l).2.1, 0, 0, zF, zF, zF, zF⟩, (pairR l).2.2.1, 0)
def fieldR (l : List UInt8) : Fl × Nat × Nat :=
  if (texts l 12).2.2 ≠ 0 then (zF, 0, (texts l 12).2.2)
  else if (texts l 12).1 ≠ [] then (⟨0, ⟨(texts l 12).1.toArray⟩⟩, (texts l 12).2.1, 0)
  else if (get (l.drop (texts l 12).2.1)).2.2 ≠ 0 then (zF, 0, (get (l.drop (texts l 12).2.1)).2.2)
  else (⟨zag (get (l.drop (texts l 12).2.1)).1, ⟨#[]⟩⟩, (texts l 12).2.1 + (get (l.drop (texts l 12).2.1)).2.1, 0)
def readS (s : List UInt8) : Nat → Dl × Nat × Nat
  | 0 => headR s
  | b + 1 =>
    if (readS s b).2.2 ≠ 0 then readS s b
    else if (readS s b).1.m.testBit b = false then readS s b
    else if b = 0 then
      ({ (readS s b).1 with x := ((min (pairR (s.drop (readS s b).2.1)).1 64 : Nat) : Int), y := ((min (pairR (s.drop (readS s b).2.1)).2.1 64 : Nat) : Int) }, (readS s b).2.1 + (pairR (s.drop (readS s b).2.1)).2.2.1, (pairR (s.drop (readS s b).2.1)).2.2.2)
    else ((readS s b).1.set (b - 1) (fieldR (s.drop (readS s b).2.1)).1, (readS s b).2.1 + (fieldR (s.drop (readS s b).2.1)).2.1, (fieldR (s.drop (readS s b).2.1)).2.2)
def read (s : List UInt8) : Dl × Nat × Nat :=
  if (readS s 5).2.2 ≠ 0 then (zD, 0, (readS s 5).2.2) else if isD (readS s 5).1 = false then (zD, 0, 11) else readS s 5
theorem cut_data (s : ByteArray) (k : Nat) : (s.extract k s.size).data.toList = s.data.toList.drop k := by
  obtain ⟨⟨l⟩⟩ := s
  exact extract_tail l k
theorem texts_ok {l u : List UInt8} {k e : Nat} (h : texts l 12 = (u, k, e)) : u.length ≤ 12 ∧ k ≤ l.length ∧ k ≤ 22 ∧ (e = 0 ∨ e = 10 ∨ e = 11 ∨ e = 13) ∧ (e ≠ 0 → u = [] ∧ k = 0) := by
  rcases hg : get l with ⟨n, i, x⟩
  obtain ⟨h1, h2, h3, h4, h5⟩ := get_ok hg
  unfold texts at h
  rw [hg] at h
  simp only at h
  by_cases hx : x = 0
  · rw [if_neg (by simpa using hx)] at h
    by_cases hn : max (12 : Int) 0 < (n : Int)
    · rw [if_pos hn] at h
      simp only [Prod.mk.injEq] at h
      obtain ⟨rfl, rfl, rfl⟩ := h
      simp
    · rw [if_neg hn] at h
      by_cases hl : l.length - i < n
      · rw [if_pos hl] at h
        simp only [Prod.mk.injEq] at h
        obtain ⟨rfl, rfl, rfl⟩ := h
        simp
      · rw [if_neg hl] at h
        simp only [Prod.mk.injEq] at h
        obtain ⟨rfl, rfl, rfl⟩ := h
        refine ⟨?_, by omega, by omega, Or.inl rfl, fun h => absurd rfl h⟩
        simp only [List.length_take, List.length_drop]
        omega
  · rw [if_pos (by simpa using hx)] at h
    simp only [Prod.mk.injEq] at h
    obtain ⟨rfl, rfl, rfl⟩ := h
    simp
    omega
theorem pairR_ok {l : List UInt8} {a b k e : Nat} (h : pairR l = (a, b, k, e)) : a ≤ 18446744073709551615 ∧ b ≤ 18446744073709551615 ∧ k ≤ l.length ∧ k ≤ 20 ∧ (e = 0 ∨ e = 10 ∨ e = 11) ∧ (e ≠ 0 → a = 0 ∧ b = 0 ∧ k = 0) := by
  rcases hg : get l with ⟨n, i, x⟩
  obtain ⟨h1, h2, h3, h4, h5⟩ := get_ok hg
  rcases hg' : get (l.drop i) with ⟨n', i', x'⟩
  obtain ⟨h1', h2', h3', h4', h5'⟩ := get_ok hg'
  rw [List.length_drop] at h2'
  unfold pairR at h
  rw [hg] at h
  simp only at h
  rw [hg'] at h
  simp only at h
  split at h
  · simp only [Prod.mk.injEq] at h; obtain ⟨rfl, rfl, rfl, rfl⟩ := h; simp; omega
  · split at h
    · simp only [Prod.mk.injEq] at h; obtain ⟨rfl, rfl, rfl, rfl⟩ := h; simp; omega
    · simp only [Prod.mk.injEq] at h; obtain ⟨rfl, rfl, rfl, rfl⟩ := h; simp; omega
theorem fieldR_ok {l : List UInt8} {f : Fl} {k e : Nat} (h : fieldR l = (f, k, e)) : f.s.size ≤ 12 ∧ k ≤ l.length ∧ k ≤ 32 ∧ (e = 0 ∨ e = 10 ∨ e = 11 ∨ e = 13) ∧ isF f = true ∧ (e ≠ 0 → f = zF ∧ k = 0) := by
  rcases ht : texts l 12 with ⟨u, i, x⟩
  obtain ⟨t1, t2, t3, t4, t5⟩ := texts_ok ht
  rcases hg : get (l.drop i) with ⟨n, i', x'⟩
  obtain ⟨h1, h2, h3, h4, h5⟩ := get_ok hg
  rw [List.length_drop] at h2
  unfold fieldR at h
  rw [ht] at h
  simp only at h
  rw [hg] at h
  simp only at h
  have z1 : (zF.s.size ≤ 12) := by decide
  have z2 : isF zF = true := by decide
  split at h
  · simp only [Prod.mk.injEq] at h; obtain ⟨rfl, rfl, rfl⟩ := h; exact ⟨z1, by omega, by omega, t4, z2, fun _ => ⟨rfl, rfl⟩⟩
  · split at h
    · simp only [Prod.mk.injEq] at h; obtain ⟨rfl, rfl, rfl⟩ := h
      have t1' : ByteArray.size ⟨u.toArray⟩ ≤ 12 := t1
      exact ⟨t1, by omega, by omega, Or.inl rfl, by simp [isF, t1'], fun h => absurd rfl h⟩
    · split at h
      · simp only [Prod.mk.injEq] at h; obtain ⟨rfl, rfl, rfl⟩ := h; exact ⟨z1, by omega, by omega, by omega, z2, fun _ => ⟨rfl, rfl⟩⟩
      · simp only [Prod.mk.injEq] at h; obtain ⟨rfl, rfl, rfl⟩ := h
        exact ⟨by simp [ByteArray.size], by omega, by omega, Or.inl rfl, by simp [isF, ByteArray.size, ByteArray.toList_eq], fun h => absurd rfl h⟩
theorem told_len {f : Fl} (h : f.s.size ≤ 12) : (told f).length ≤ 32 := by
  have h1 := (put_length f.s.data.toList.length).2
  have h2 := (put_length (zig f.n)).2
  have h3 : f.s.data.toList.length ≤ 12 := h
  unfold told text
  split <;> simp only [List.length_append, List.length_nil] <;> omega
theorem bytesK_len {d : Dl} (h : ∀ k, (d.f k).s.size ≤ 12) : ∀ k, (bytesK d k).length ≤ 40 + 32 * k
  | 0 => by
    have h1 := (put_length d.id.toNat).2
    have h2 := (put_length d.m).2
    have h3 := (put_length d.x.toNat).2
    have h4 := (put_length d.y.toNat).2
    unfold bytesK
    split <;> simp only [List.length_append, List.length_nil] <;> omega
  | k + 1 => by
    have ih := bytesK_len h k
    have := told_len (h k)
    unfold bytesK
    split <;> simp only [List.length_append, List.length_nil] <;> omega
theorem bytesK_same {d : Dl} {k : Nat} {L : List UInt8} (h : bytesK d k = L) (hr : d.m.testBit (k + 1) = false) : bytesK d (k + 1) = L := by
  rw [bytesK, hr, h]; simp
theorem bytesK_next {d : Dl} {k : Nat} {L : List UInt8} (h : bytesK d k = L) (hr : d.m.testBit (k + 1) = true) : bytesK d (k + 1) = L ++ told (d.f k) := by
  rw [bytesK, hr, h]; simp
theorem isD_small {d : Dl} (h : isD d = true) : 0 ≤ d.id ∧ d.id ≤ 1000000 ∧ 1 ≤ d.m ∧ d.m ≤ 31 ∧ 0 ≤ d.x ∧ d.x < 64 ∧ 0 ≤ d.y ∧ d.y < 64 ∧ (∀ k, (d.f k).s.size ≤ 12) ∧ (∀ k, isF (d.f k) = true) := by
  unfold isD at h
  simp only [Bool.and_eq_true, decide_eq_true_eq, onB, inB, List.all_eq_true, List.mem_range] at h
  obtain ⟨⟨⟨⟨⟨⟨h1, h2⟩, h3⟩, h4⟩, ⟨⟨h5, h6⟩, h7⟩, h8⟩, h9⟩, h10⟩ := h
  have hF : ∀ k, isF (d.f k) = true := fun k => by
    rcases Nat.lt_or_ge k 4 with hk | hk
    · exact (h10 k hk).1
    · have : d.f k = d.f 3 := by
        obtain ⟨j, rfl⟩ : ∃ j, k = j + 4 := ⟨k - 4, by omega⟩
        rfl
      rw [this]; exact (h10 3 (by omega)).1
  refine ⟨h1, h2, h3, h4, h5, h6, h7, h8, fun k => ?_, hF⟩
  have := hF k
  unfold isF at this
  simp only [Bool.and_eq_true, decide_eq_true_eq] at this
  exact this.2
end
section
open Go.RowKit
set_option linter.unusedVariables false
theorem hid {p : Prop} (h : p) : Hid p := h
theorem fin4 {a b c d a' b' c' d' : Int} (h1 : a = a') (h2 : b = b') (h3 : c = c') (h4 : d = d') : Ending.returned (.tuple #[.int .u64 a, .int .u64 b, .int .i64 c, .int .i64 d]) = .returned (.tuple #[.int .u64 a', .int .u64 b', .int .i64 c', .int .i64 d']) := by rw [h1, h2, h3, h4]
theorem get_cut_at {s : ByteArray} {i n k e : Nat} (h : Hid (get (s.data.toList.drop i) = (n, k, e))) (hs : s.size ≤ 1000000) (w : World) :
    Calls Tryz.prog 80 #[.string (s.extract i s.size)] w fun x w' => x = .returned (.tuple #[.int .u64 n, .int .i64 k, .int .i64 e]) ∧ w' = w :=
  get_eq (by rw [cut_data]; exact h) (by rw [ByteArray.size_extract]; unfold maxLen; omega) w
theorem fields_pair {s : ByteArray} {a b k e : Nat} (h : Hid (pairR s.data.toList = (a, b, k, e))) (hs : s.size ≤ 1000000) (w : World) :
    Calls Tryz.prog 95 #[.string s] w fun x w' => x = .returned (.tuple #[.int .u64 a, .int .u64 b, .int .i64 k, .int .i64 e]) ∧ w' = w := by
  rcases hg : get s.data.toList with ⟨n, i, x⟩
  obtain ⟨h1, h2, h3, h4, h5⟩ := get_ok hg
  have h2 : i ≤ s.size := h2
  have HG : Hid (get s.data.toList = (n, i, x)) := hg
  rcases hg' : get (s.data.toList.drop i) with ⟨n', i', x'⟩
  obtain ⟨h1', h2', h3', h4', h5'⟩ := get_ok hg'
  have HG' : Hid (get (s.data.toList.drop i) = (n', i', x')) := hg'
  clear hg hg' h2'
  have hp := h.out
  unfold pairR at hp
  rw [HG.out] at hp
  simp only at hp
  rw [HG'.out] at hp
  simp only at hp
  have HP := hid hp
  clear hp h
  by_cases hx : x = 0
  · by_cases hx' : x' = 0
    · have q1 : ((x : Int) != 0) = false := by simp [hx]
      have q2 : ((x' : Int) != 0) = false := by simp [hx']
      have HX : Hid (x = 0) := hx
      have HX' : Hid (x' = 0) := hx'
      clear hx hx'
      go_enter Tryz.func95, Tryz.ntmps95
      go_wp2_with fail
      refine (get_eq HG (by unfold maxLen; omega) _).mono ?_
      rintro y w1 ⟨rfl, rfl⟩
      go_wp2_with fail
      refine (get_cut_at HG' hs _).mono ?_
      rintro y w1 ⟨rfl, rfl⟩
      go_wp2_with fail
      have hp := HP.out
      rw [if_neg (by simp [HX.out]), if_neg (by simp [HX'.out])] at hp
      simp only [Prod.mk.injEq] at hp
      obtain ⟨rfl, rfl, rfl, rfl⟩ := hp
      exact bodyPost_ret (v := .tuple #[.int .u64 n, .int .u64 n', .int .i64 ((i : Int) + i'), .int .i64 0]) (by simp [results, Tryz.results95, go_sem]) rfl ⟨fin4 rfl rfl (by omega) rfl, rfl⟩
    · have q1 : ((x : Int) != 0) = false := by simp [hx]
      have q2 : ((x' : Int) != 0) = true := by simpa using hx'
      have HX : Hid (x = 0) := hx
      have HX' : Hid (¬ x' = 0) := hx'
      clear hx hx'
      go_enter Tryz.func95, Tryz.ntmps95
      go_wp2_with fail
      refine (get_eq HG (by unfold maxLen; omega) _).mono ?_
      rintro y w1 ⟨rfl, rfl⟩
      go_wp2_with fail
      refine (get_cut_at HG' hs _).mono ?_
      rintro y w1 ⟨rfl, rfl⟩
      go_wp2_with fail
      have hp := HP.out
      rw [if_neg (by simp [HX.out]), if_pos (by simpa using HX'.out)] at hp
      simp only [Prod.mk.injEq] at hp
      obtain ⟨rfl, rfl, rfl, rfl⟩ := hp
      exact bodyPost_ret (v := .tuple #[.int .u64 0, .int .u64 0, .int .i64 0, .int .i64 x']) (by simp [results, Tryz.results95, go_sem]) rfl ⟨rfl, rfl⟩
  · have q1 : ((x : Int) != 0) = true := by simpa using hx
    have HX : Hid (¬ x = 0) := hx
    clear hx
    go_enter Tryz.func95, Tryz.ntmps95
    go_wp2_with fail
    refine (get_eq HG (by unfold maxLen; omega) _).mono ?_
    rintro y w1 ⟨rfl, rfl⟩
    go_wp2_with fail
    have hp := HP.out
    rw [if_pos (by simpa using HX.out)] at hp
    simp only [Prod.mk.injEq] at hp
    obtain ⟨rfl, rfl, rfl, rfl⟩ := hp
    exact bodyPost_ret (v := .tuple #[.int .u64 0, .int .u64 0, .int .i64 0, .int .i64 x]) (by simp [results, Tryz.results95, go_sem]) rfl ⟨rfl, rfl⟩
theorem fields_head {s : ByteArray} {D : Dl} {k e : Nat} (h : Hid (headR s.data.toList = (D, k, e))) (hs : s.size ≤ 1000000) (w : World) :
    Calls Tryz.prog 85 #[.string s] w fun x w' => x = .returned (.tuple #[D.v, .int .i64 k, .int .i64 e]) ∧ Below w.heap.size w w' := by
  rcases hg : pairR s.data.toList with ⟨a, b, i, x⟩
  obtain ⟨h1, h2, h3, h4, h5, h6⟩ := pairR_ok hg
  have HG : Hid (pairR s.data.toList = (a, b, i, x)) := hg
  clear hg h3
  have hp := h.out
  unfold headR at hp
  rw [HG.out] at hp
  simp only at hp
  have HP := hid hp
  clear hp h
  by_cases hx : x = 0
  · subst hx
    clear h5 h6
    by_cases hb : 1000000 < a ∨ b = 0 ∨ 31 < b
    · have hp := HP.out
      rw [if_neg (by simp), if_pos hb] at hp
      simp only [Prod.mk.injEq] at hp
      obtain ⟨rfl, rfl, rfl⟩ := hp
      clear HP
      go_enter Tryz.func85, Tryz.ntmps85
      go_wp2_with fail
      refine (fields_pair HG hs _).mono ?_
      rintro y w1 ⟨rfl, rfl⟩
      go_wp2_with fail
      all_goals first | (exfalso; omega) | exact bodyPost_ret (v := .tuple #[zD.v, .int .i64 0, .int .i64 11]) (by simp [results, Tryz.results85, go_sem, zD, zF]) rfl ⟨rfl, below1 _ _⟩
    · have hp := HP.out
      rw [if_neg (by simp), if_neg hb] at hp
      simp only [Prod.mk.injEq] at hp
      obtain ⟨rfl, rfl, rfl⟩ := hp
      clear HP
      have b1 : a ≤ 1000000 := by omega
      have b2 : b ≤ 31 := by omega
      have b3 : ((b : Int) == 0) = false := by simp; omega
      have b4 : (b : Int) % 256 = b := by omega
      clear hb
      go_enter Tryz.func85, Tryz.ntmps85
      go_wp2_with fail
      refine (fields_pair HG hs _).mono ?_
      rintro y w1 ⟨rfl, rfl⟩
      go_wp2_with fail
      exact bodyPost_ret (v := .tuple #[Dl.v ⟨a, b, 0, 0, zF, zF, zF, zF⟩, .int .i64 i, .int .i64 0]) (by simp [results, Tryz.results85, go_sem, zF]) rfl ⟨rfl, below1 _ _⟩
  · have q1 : ((x : Int) != 0) = true := by simpa using hx
    have q2 : ((x : Int) == 0) = false := by simpa using hx
    have hp := HP.out
    rw [if_pos (by simpa using hx)] at hp
    simp only [Prod.mk.injEq] at hp
    obtain ⟨rfl, rfl, rfl⟩ := hp
    clear HP hx h6
    go_enter Tryz.func85, Tryz.ntmps85
    go_wp2_with fail
    refine (fields_pair HG hs _).mono ?_
    rintro y w1 ⟨rfl, rfl⟩
    go_wp2_with fail
    exact bodyPost_ret (v := .tuple #[zD.v, .int .i64 0, .int .i64 x]) (by simp [results, Tryz.results85, go_sem, zD, zF]) rfl ⟨rfl, below1 _ _⟩
theorem fields_point {s : ByteArray} {a b k e : Nat} (h : Hid (pairR s.data.toList = (a, b, k, e))) (hs : s.size ≤ 1000000) (w : World) :
    Calls Tryz.prog 86 #[.string s] w fun x w' => x = .returned (.tuple #[pt ((min a 64 : Nat) : Int) ((min b 64 : Nat) : Int), .int .i64 k, .int .i64 e]) ∧ Below w.heap.size w w' := by
  obtain ⟨h1, h2, h3, h4, h5, h6⟩ := pairR_ok h.out
  clear h5 h6 h3
  go_enter Tryz.func86, Tryz.ntmps86
  go_wp2_with fail
  refine (fields_pair h hs _).mono ?_
  rintro y w1 ⟨rfl, rfl⟩
  go_wp2_with fail
  rw [show ((min a 64 : Nat) : Int) = min (a : Int) 64 by omega, show ((min b 64 : Nat) : Int) = min (b : Int) 64 by omega]
  exact bodyPost_ret (v := .tuple #[pt (min (a : Int) 64) (min (b : Int) 64), .int .i64 k, .int .i64 e]) (by simp [results, Tryz.results86, go_sem]) rfl ⟨rfl, below1 _ _⟩
theorem text_empty {u : List UInt8} (h : u = []) : (⟨u.toArray⟩ : ByteArray).toList = [] := by rw [h, ByteArray.toList_eq]
theorem text_some {u : List UInt8} (h : ¬ u = []) : (⟨u.toArray⟩ : ByteArray).toList.isEmpty = false := by rw [ByteArray.toList_eq]; simpa using h
set_option maxHeartbeats 1000000 in
theorem fields_field {s : ByteArray} {f : Fl} {k e : Nat} (h : Hid (fieldR s.data.toList = (f, k, e))) (hs : s.size ≤ 1000000) (w : World) :
    Calls Tryz.prog 87 #[.string s] w fun x w' => x = .returned (.tuple #[f.v, .int .i64 k, .int .i64 e]) ∧ Below w.heap.size w w' := by
  rcases ht : texts s.data.toList 12 with ⟨u, i, x⟩
  obtain ⟨t1, t2, t3, t4, t5⟩ := texts_ok ht
  have t2 : i ≤ s.size := t2
  have HT : Hid (texts s.data.toList 12 = ((⟨u.toArray⟩ : ByteArray).data.toList, i, x)) := ht
  have HT' : Hid (texts s.data.toList 12 = (u, i, x)) := ht
  rcases hg : get (s.data.toList.drop i) with ⟨n, i', x'⟩
  obtain ⟨h1, h2, h3, h4, h5⟩ := get_ok hg
  have HG : Hid (get (s.data.toList.drop i) = (n, i', x')) := hg
  have HG2 : Hid (get (s.extract i s.size).data.toList = (n, i', x')) := by rw [cut_data]; exact hg
  clear hg ht h2
  have hp := h.out
  unfold fieldR at hp
  rw [HT'.out] at hp
  simp only at hp
  rw [HG.out] at hp
  simp only at hp
  have HP := hid hp
  clear hp h
  have K0 : Hid ((w.alloc zF.o).heap[w.heap.size]? = some zF.o) := new_at _ _ _ rfl
  by_cases hx : x = 0
  · subst hx
    clear t4 t5
    by_cases hu : u = []
    · subst hu
      by_cases hx' : x' = 0
      · subst hx'
        clear h4 h5
        have hp := HP.out
        rw [if_neg (by simp), if_neg (by simp), if_neg (by simp)] at hp
        simp only [Prod.mk.injEq] at hp
        obtain ⟨rfl, rfl, rfl⟩ := hp
        clear HP HT'
        obtain ⟨z, hz⟩ : ∃ z, Hid (zag n = z) := ⟨_, rfl⟩
        rw [hz.out]
        go_enter Tryz.func87, Tryz.ntmps87
        go_wp2_with fail
        refine (texts_at (u := ⟨#[]⟩) HT (by omega) (by omega) (by omega) _).mono ?_
        rintro y w1 ⟨rfl, hb⟩
        have k1 := var_on hb K0.out (at_lt K0.out)
        have c1 := cells_at k1
        have l1 := at_lt k1
        have hB := below_on (below1 w zF.o) hb
        clear k1 hb K0
        go_wp2_with fail
        refine (ints_at HG2 hz (by rw [ByteArray.size_extract]; unfold maxLen; omega) _).mono ?_
        rintro y w2 ⟨rfl, rfl⟩
        go_wp2_with fail
        exact bodyPost_ret (v := .tuple #[Fl.v ⟨z, ⟨#[]⟩⟩, .int .i64 ((i : Int) + i'), .int .i64 0]) (by simp [results, Tryz.results87, go_sem, c1]) rfl ⟨by simp, (hB.setCell (by simp) _).setCell (by simp) _⟩
      · have q1 : ((x' : Int) != 0) = true := by simpa using hx'
        have hp := HP.out
        rw [if_neg (by simp), if_neg (by simp), if_pos (by simpa using hx')] at hp
        simp only [Prod.mk.injEq] at hp
        obtain ⟨rfl, rfl, rfl⟩ := hp
        clear HP HT' hx' h5
        obtain ⟨z, hz⟩ : ∃ z, Hid (zag n = z) := ⟨_, rfl⟩
        go_enter Tryz.func87, Tryz.ntmps87
        go_wp2_with fail
        refine (texts_at (u := ⟨#[]⟩) HT (by omega) (by omega) (by omega) _).mono ?_
        rintro y w1 ⟨rfl, hb⟩
        have k1 := var_on hb K0.out (at_lt K0.out)
        have c1 := cells_at k1
        have l1 := at_lt k1
        have hB := below_on (below1 w zF.o) hb
        clear k1 hb K0
        go_wp2_with fail
        refine (ints_at HG2 hz (by rw [ByteArray.size_extract]; unfold maxLen; omega) _).mono ?_
        rintro y w2 ⟨rfl, rfl⟩
        go_wp2_with fail
        exact bodyPost_ret (v := .tuple #[Fl.v ⟨0, ⟨#[]⟩⟩, .int .i64 0, .int .i64 x']) (by simp [results, Tryz.results87, go_sem, c1]) rfl ⟨rfl, (hB.setCell (by simp) _).setCell (by simp) _⟩
    · have hp := HP.out
      rw [if_neg (by simp), if_pos (by simpa using hu)] at hp
      simp only [Prod.mk.injEq] at hp
      obtain ⟨rfl, rfl, rfl⟩ := hp
      have hu' := text_some hu
      clear HP HT' hu HG HG2 h1 h3 h4 h5
      obtain ⟨U, hU⟩ : ∃ U, (⟨u.toArray⟩ : ByteArray) = U := ⟨_, rfl⟩
      rw [hU] at hu' HT
      rw [hU]
      clear hU
      go_enter Tryz.func87, Tryz.ntmps87
      go_wp2_with fail
      refine (texts_at HT (by omega) (by omega) (by omega) _).mono ?_
      rintro y w1 ⟨rfl, hb⟩
      have k1 := var_on hb K0.out (at_lt K0.out)
      have c1 := cells_at k1
      have l1 := at_lt k1
      have hB := below_on (below1 w zF.o) hb
      clear k1 hb K0
      go_wp2_with fail
      exact bodyPost_ret (v := .tuple #[Fl.v ⟨0, U⟩, .int .i64 i, .int .i64 0]) (by simp [results, Tryz.results87, go_sem, c1]) rfl ⟨rfl, (hB.setCell (by simp) _).setCell (by simp) _⟩
  · have q1 : ((x : Int) != 0) = true := by simpa using hx
    obtain ⟨rfl, rfl⟩ := t5 hx
    have hp := HP.out
    rw [if_pos (by simpa using hx)] at hp
    simp only [Prod.mk.injEq] at hp
    obtain ⟨rfl, rfl, rfl⟩ := hp
    clear HP HT' HG HG2 h1 h3 h4 h5 t5 hx t2
    go_enter Tryz.func87, Tryz.ntmps87
    go_wp2_with fail
    refine (texts_at (u := ⟨#[]⟩) HT (by omega) (by omega) (by omega) _).mono ?_
    rintro y w1 ⟨rfl, hb⟩
    have k1 := var_on hb K0.out (at_lt K0.out)
    have c1 := cells_at k1
    have l1 := at_lt k1
    have hB := below_on (below1 w zF.o) hb
    clear k1 hb K0
    go_wp2_with fail
    exact bodyPost_ret (v := .tuple #[Fl.v ⟨0, ⟨#[]⟩⟩, .int .i64 0, .int .i64 x]) (by simp [results, Tryz.results87, go_sem, c1]) rfl ⟨rfl, (hB.setCell (by simp) _).setCell (by simp) _⟩
end
section
open Go.RowKit
set_option linter.unusedVariables false
theorem calls_val {f : Nat} {args : Array Value} {w : World} {v v' : Value} (h : Calls Tryz.prog f args w fun e w' => e = .returned v ∧ Below w.heap.size w w') (hv : v = v') : Calls Tryz.prog f args w fun e w' => e = .returned v' ∧ Below w.heap.size w w' := by
  rw [← hv]; exact h
theorem put_int (z : Int) (h0 : 0 ≤ z) (h1 : z ≤ 1000000) (w : World) : Calls Tryz.prog 76 #[.int .u64 z] w fun e w' => e = .returned (.string ⟨(put z.toNat).toArray⟩) ∧ Below w.heap.size w w' := by
  obtain ⟨n, rfl⟩ := Int.eq_ofNat_of_zero_le h0
  exact put_any n (by omega) w
theorem refput_int (z : Int) (h0 : 0 ≤ z) (h1 : z ≤ 1000000) (w : World) : Calls Tryz.prog 66 #[.int .u64 z] w fun e w' => e = .returned (.string ⟨(put z.toNat).toArray⟩) ∧ Below w.heap.size w w' := by
  obtain ⟨n, rfl⟩ := Int.eq_ofNat_of_zero_le h0
  exact ref_put n (by omega) w
def fitF (f : Fl) : Prop := f.s.size ≤ 1000000 ∧ -9223372036854775808 ≤ f.n ∧ f.n ≤ 9223372036854775807
set_option maxHeartbeats 1000000 in
theorem fields_told (w : World) (f : Fl) (h : fitF f) : Calls Tryz.prog 84 #[f.v] w fun e w' => e = .returned (.string ⟨(told f).toArray⟩) ∧ Below w.heap.size w w' := by
  obtain ⟨h1, h2, h3⟩ := h
  have K0 : Hid ((w.alloc f.o).heap[w.heap.size]? = some f.o) := new_at _ _ _ rfl
  obtain ⟨T, hT⟩ : ∃ T, Hid (T = text f.s.data.toList) := ⟨_, rfl⟩
  have lT : T.length ≤ 1000010 := by
    rw [hT.out]; unfold text; have := (put_length f.s.data.toList.length).2; rw [List.length_append]; have e : f.s.data.toList.length ≤ 1000000 := h1; omega
  obtain ⟨I, hI⟩ : ∃ I, Hid (I = put (zig f.n)) := ⟨_, rfl⟩
  have lI : I.length ≤ 10 := by rw [hI.out]; exact (put_length _).2
  by_cases he : f.s.data.toList = []
  · have ht : told f = T ++ I := by unfold told; rw [if_pos he, hT.out, hI.out]
    have he' : f.s.toList = [] := by rw [ByteArray.toList_eq]; exact he
    have HT := hid ht
    clear ht he
    go_enter Tryz.func84, Tryz.ntmps84
    go_wp2_with fail
    refine (text_at hT (by omega) _).mono ?_
    rintro y w1 ⟨rfl, hb⟩
    have k1 := var_on hb K0.out (at_lt K0.out)
    have c1 := cells_at k1
    have l1 := at_lt k1
    have hB := below_on (below1 w f.o) hb
    clear k1 hb K0
    go_wp2_with fail
    refine (int_at hI h2 h3 _).mono ?_
    rintro y w2 ⟨rfl, hb⟩
    go_wp2_with fail
    go_ret
    rw [HT.out]
    exact ⟨congrArg (fun x => Ending.returned (.string x)) (ByteArray.mk_append_mk T I), below_on hB hb⟩
  · have ht : told f = T := by unfold told; rw [if_neg he, hT.out, List.append_nil]
    have he' : f.s.toList.isEmpty = false := by rw [ByteArray.toList_eq]; simpa using he
    have HT := hid ht
    clear ht he
    go_enter Tryz.func84, Tryz.ntmps84
    go_wp2_with fail
    refine (text_at hT (by omega) _).mono ?_
    rintro y w1 ⟨rfl, hb⟩
    have k1 := var_on hb K0.out (at_lt K0.out)
    have c1 := cells_at k1
    have l1 := at_lt k1
    have hB := below_on (below1 w f.o) hb
    clear k1 hb K0
    go_wp2_with fail
    go_ret
    rw [HT.out]
    exact ⟨rfl, hB⟩
theorem grown_cells {W : World} {g : Nat} {cs : Array Value} {t : TypeId} (h : W.heap[g]? = some (.cells cs t (0, 0))) : ∀ i d os, (Sort.grow (redrawn W d) os).cell? ⟨g, i, none⟩ = cs[i]? := fun i d os =>
  Go.Joins.cell_of_block (var_on (below_regrown W d os) h (at_lt h)) i
theorem app3 (A B C : List UInt8) : (⟨A.toArray⟩ : ByteArray) ++ (⟨B.toArray⟩ ++ ⟨C.toArray⟩) = ⟨(A ++ (B ++ C)).toArray⟩ := by rw [ByteArray.mk_append_mk, ByteArray.mk_append_mk]
theorem app3' (A B C : List UInt8) : (⟨A.toArray⟩ : ByteArray) ++ ⟨B.toArray⟩ ++ ⟨C.toArray⟩ = ⟨(A ++ (B ++ C)).toArray⟩ := by rw [ByteArray.mk_append_mk, ByteArray.mk_append_mk, List.append_assoc]
theorem bytes0 {d : Dl} {L0 L1 A : List UInt8} (h0 : put d.id.toNat = L0) (h1 : put (d.m : Int).toNat = L1) (hA : L0 ++ L1 = A) (hq : d.m.testBit 0 = false) : bytesK d 0 = A := by
  rw [bytesK, hq, h0, ← hA, ← h1]; simp
theorem bytes1 {d : Dl} {L0 L1 A X Y B : List UInt8} (h0 : put d.id.toNat = L0) (h1 : put (d.m : Int).toNat = L1) (hA : L0 ++ L1 = A) (hx : put d.x.toNat = X) (hy : put d.y.toNat = Y) (hB : A ++ (X ++ Y) = B) (hq : d.m.testBit 0 = true) : bytesK d 0 = B := by
  rw [bytesK, hq, h0, hx, hy, ← hB, ← hA, ← h1]; simp
theorem reftext_at {s : ByteArray} {L : List UInt8} (H : Hid (L = text s.data.toList)) (hs : s.size ≤ 281474976710656) (w : World) :
    Calls Tryz.prog 38 #[.string s] w fun e w' => e = .returned (.string ⟨L.toArray⟩) ∧ Below w.heap.size w w' := by
  rw [H.out]; exact ref_text s hs w
theorem told_at {f : Fl} {L : List UInt8} (H : Hid (told f = L)) (h : fitF f) (w : World) : Calls Tryz.prog 84 #[f.v] w fun e w' => e = .returned (.string ⟨L.toArray⟩) ∧ Below w.heap.size w w' := by
  rw [← H.out]; exact fields_told w f h
set_option maxHeartbeats 4000000 in
theorem fields_bytes (w : World) (d : Dl) (hD : isD d = true) (hf : ∀ k, fitF (d.f k)) : Calls Tryz.prog 69 #[d.v] w fun e w' => e = .returned (.tuple #[.string ⟨(bytesK d 4).toArray⟩, .int .i64 0]) ∧ Below w.heap.size w w' := by
  obtain ⟨d1, d2, d3, d4, d5, d6, d7, d8, d9, d10⟩ := isD_small hD
  have K0 : Hid ((w.alloc d.o).heap[w.heap.size]? = some d.o) := new_at _ _ _ rfl
  obtain ⟨L0, p0⟩ : ∃ L, Hid (put d.id.toNat = L) := ⟨_, rfl⟩
  obtain ⟨L1, p1⟩ : ∃ L, Hid (put (d.m : Int).toNat = L) := ⟨_, rfl⟩
  have n0 : L0.length ≤ 10 := by rw [← p0.out]; exact (put_length _).2
  have n1 : L1.length ≤ 10 := by rw [← p1.out]; exact (put_length _).2
  obtain ⟨q, hq⟩ : ∃ q, Hid (d.m.testBit 0 = q) := ⟨_, rfl⟩
  go_enter Tryz.func69, Tryz.ntmps69
  go_wp2_with fail
  refine (fields_isDelta _ d (by omega) (fun k => by have := d9 k; unfold maxLen; omega)).mono ?_
  rw [hD]
  rintro y w1 ⟨rfl, hb⟩
  have K1 := hid (var_on hb K0.out (at_lt K0.out))
  have c1 := cells_at K1.out
  have l1 := at_lt K1.out
  have hB := below_on (below1 w d.o) hb
  clear hb K0
  have g1 := grown_cells K1.out
  go_wp2_with fail
  refine wp_region_quiet_below (by kernel_rfl) (by kernel_rfl) ?_
  repeat (first | go_big_quiet_step (exact Calls.regrown_of (calls_val (put_int _ (by omega) (by omega) _) (by first | rw [p0.out] | rw [p1.out]))) | quiet_step (exact Calls.regrown_of (calls_val (put_int _ (by omega) (by omega) _) (by first | rw [p0.out] | rw [p1.out]))))
  refine wpQuiet_nil ?_
  intro _ hw'
  obtain ⟨⟨dq, osq⟩, hw''⟩ := hw'
  subst hw''
  clear g1 c1 l1
  obtain ⟨w2, hW⟩ : ∃ W, W = Sort.grow (redrawn w1 dq) osq := ⟨_, rfl⟩
  have hbb : Below w1.heap.size w1 w2 := by rw [hW]; exact below_regrown _ _ _
  rw [← hW]
  clear hW
  have K2 : Hid (w2.heap[w.heap.size]? = some d.o) := var_on hbb K1.out (at_lt K1.out)
  replace hB := below_on hB hbb
  clear hbb K1
  have c2 := cells_at K2.out
  have l2 := at_lt K2.out
  rw [ByteArray.mk_append_mk L0 L1]
  obtain ⟨A, hA⟩ : ∃ A, Hid (L0 ++ L1 = A) := ⟨_, rfl⟩
  have nA : A.length ≤ 20 := by rw [← hA.out, List.length_append]; omega
  rw [hA.out]
  cases q
  · go_wp2_with fail
    refine (has_at (k := 0) hq.out _ (by omega) (by omega)).mono ?_
    rintro x w3 ⟨rfl, h3⟩
    rw [h3]
    clear h3 w3
    go_wp2_with fail
    have b0 : Hid (bytesK d 0 = A) := bytes0 p0.out p1.out hA.out hq.out
    have KE := K2
    clear K2
    go_loopw [4, 37] (fun s i wr => ∃ (k : Nat) (L : List UInt8), k ≤ 4 ∧ i = .int .i64 k ∧ s = .string ⟨L.toArray⟩ ∧ bytesK d k = L ∧ wr.heap[w.heap.size]? = some d.o ∧ Below w.heap.size w wr) (fun _ i _ => 4 - (intOf i).toNat)
    case atStart => exact ⟨0, _, by omega, rfl, rfl, by rw [b0.out], KE.out, hB⟩
    case round =>
      clear hB KE
      try clear c1
      try clear c2
      obtain ⟨k, L, hk, rfl, rfl, hL, h0, hb⟩ := hrel
      have lL : L.length ≤ 200 := by rw [← hL]; have := bytesK_len d9 k; omega
      have HL := hid hL
      clear hL
      have c0 := cells_at h0
      have l0 := at_lt h0
      have H0 := hid h0
      clear h0
      obtain rfl | rfl | rfl | rfl | rfl : k = 0 ∨ k = 1 ∨ k = 2 ∨ k = 3 ∨ k = 4 := by omega
      · have hI := indexA_f0
        obtain ⟨r, hr⟩ : ∃ r, Hid (d.m.testBit 1 = r) := ⟨_, rfl⟩
        have f9 : d.f0.s.size ≤ 12 := d9 0
        obtain ⟨T, hT⟩ : ∃ T, Hid (told d.f0 = T) := ⟨_, rfl⟩
        have lT : T.length ≤ 32 := by rw [← hT.out]; exact told_len f9
        cases r
        · go_wp2_with fail
          refine (has_at (k := 1) hr.out _ (by omega) (by omega)).mono ?_
          rintro x w3 ⟨rfl, rfl⟩
          go_wp2_with fail
          first | go_roundw | refine ⟨?rel, ?measure⟩
          case rel => exact ⟨1, L, by omega, rfl, rfl, bytesK_same HL.out hr.out, old_at H0.out _, hb.alloc (by omega) _⟩
          case measure => simp [intOf]
        · go_wp2_with fail
          refine (has_at (k := 1) hr.out _ (by omega) (by omega)).mono ?_
          rintro x w3 ⟨rfl, rfl⟩
          go_wp2_with fail
          refine (told_at hT (hf 0) _).mono ?_
          rintro x w4 ⟨rfl, hb4⟩
          go_wp2_with fail
          first | go_roundw | refine ⟨?rel, ?measure⟩
          case rel => exact ⟨1, L ++ T, by omega, rfl, by rw [ByteArray.mk_append_mk], by rw [bytesK_next HL.out hr.out, ← hT.out]; rfl, var_on hb4 (old_at H0.out _) (at_lt (old_at H0.out _)), below_on (hb.alloc (by omega) _) hb4⟩
          case measure => simp [intOf]
      · have hI := indexA_f1
        obtain ⟨r, hr⟩ : ∃ r, Hid (d.m.testBit 2 = r) := ⟨_, rfl⟩
        have f9 : d.f1.s.size ≤ 12 := d9 1
        obtain ⟨T, hT⟩ : ∃ T, Hid (told d.f1 = T) := ⟨_, rfl⟩
        have lT : T.length ≤ 32 := by rw [← hT.out]; exact told_len f9
        cases r
        · go_wp2_with fail
          refine (has_at (k := 2) hr.out _ (by omega) (by omega)).mono ?_
          rintro x w3 ⟨rfl, rfl⟩
          go_wp2_with fail
          first | go_roundw | refine ⟨?rel, ?measure⟩
          case rel => exact ⟨2, L, by omega, rfl, rfl, bytesK_same HL.out hr.out, old_at H0.out _, hb.alloc (by omega) _⟩
          case measure => simp [intOf]
        · go_wp2_with fail
          refine (has_at (k := 2) hr.out _ (by omega) (by omega)).mono ?_
          rintro x w3 ⟨rfl, rfl⟩
          go_wp2_with fail
          refine (told_at hT (hf 1) _).mono ?_
          rintro x w4 ⟨rfl, hb4⟩
          go_wp2_with fail
          first | go_roundw | refine ⟨?rel, ?measure⟩
          case rel => exact ⟨2, L ++ T, by omega, rfl, by rw [ByteArray.mk_append_mk], by rw [bytesK_next HL.out hr.out, ← hT.out]; rfl, var_on hb4 (old_at H0.out _) (at_lt (old_at H0.out _)), below_on (hb.alloc (by omega) _) hb4⟩
          case measure => simp [intOf]
      · have hI := indexA_f2
        obtain ⟨r, hr⟩ : ∃ r, Hid (d.m.testBit 3 = r) := ⟨_, rfl⟩
        have f9 : d.f2.s.size ≤ 12 := d9 2
        obtain ⟨T, hT⟩ : ∃ T, Hid (told d.f2 = T) := ⟨_, rfl⟩
        have lT : T.length ≤ 32 := by rw [← hT.out]; exact told_len f9
        cases r
        · go_wp2_with fail
          refine (has_at (k := 3) hr.out _ (by omega) (by omega)).mono ?_
          rintro x w3 ⟨rfl, rfl⟩
          go_wp2_with fail
          first | go_roundw | refine ⟨?rel, ?measure⟩
          case rel => exact ⟨3, L, by omega, rfl, rfl, bytesK_same HL.out hr.out, old_at H0.out _, hb.alloc (by omega) _⟩
          case measure => simp [intOf]
        · go_wp2_with fail
          refine (has_at (k := 3) hr.out _ (by omega) (by omega)).mono ?_
          rintro x w3 ⟨rfl, rfl⟩
          go_wp2_with fail
          refine (told_at hT (hf 2) _).mono ?_
          rintro x w4 ⟨rfl, hb4⟩
          go_wp2_with fail
          first | go_roundw | refine ⟨?rel, ?measure⟩
          case rel => exact ⟨3, L ++ T, by omega, rfl, by rw [ByteArray.mk_append_mk], by rw [bytesK_next HL.out hr.out, ← hT.out]; rfl, var_on hb4 (old_at H0.out _) (at_lt (old_at H0.out _)), below_on (hb.alloc (by omega) _) hb4⟩
          case measure => simp [intOf]
      · have hI := indexA_f3
        obtain ⟨r, hr⟩ : ∃ r, Hid (d.m.testBit 4 = r) := ⟨_, rfl⟩
        have f9 : d.f3.s.size ≤ 12 := d9 3
        obtain ⟨T, hT⟩ : ∃ T, Hid (told d.f3 = T) := ⟨_, rfl⟩
        have lT : T.length ≤ 32 := by rw [← hT.out]; exact told_len f9
        cases r
        · go_wp2_with fail
          refine (has_at (k := 4) hr.out _ (by omega) (by omega)).mono ?_
          rintro x w3 ⟨rfl, rfl⟩
          go_wp2_with fail
          first | go_roundw | refine ⟨?rel, ?measure⟩
          case rel => exact ⟨4, L, by omega, rfl, rfl, bytesK_same HL.out hr.out, old_at H0.out _, hb.alloc (by omega) _⟩
          case measure => simp [intOf]
        · go_wp2_with fail
          refine (has_at (k := 4) hr.out _ (by omega) (by omega)).mono ?_
          rintro x w3 ⟨rfl, rfl⟩
          go_wp2_with fail
          refine (told_at hT (hf 3) _).mono ?_
          rintro x w4 ⟨rfl, hb4⟩
          go_wp2_with fail
          first | go_roundw | refine ⟨?rel, ?measure⟩
          case rel => exact ⟨4, L ++ T, by omega, rfl, by rw [ByteArray.mk_append_mk], by rw [bytesK_next HL.out hr.out, ← hT.out]; rfl, var_on hb4 (old_at H0.out _) (at_lt (old_at H0.out _)), below_on (hb.alloc (by omega) _) hb4⟩
          case measure => simp [intOf]
      · go_wp2_with fail
        go_ret2
        exact ⟨by rw [HL.out]; rfl, hb⟩
  · go_wp2_with fail
    refine (has_at (k := 0) hq.out _ (by omega) (by omega)).mono ?_
    rintro x w3 ⟨rfl, h3⟩
    rw [h3]
    clear h3 w3
    go_wp2_with fail
    obtain ⟨X0, px⟩ : ∃ L, Hid (put d.x.toNat = L) := ⟨_, rfl⟩
    obtain ⟨Y0, py⟩ : ∃ L, Hid (put d.y.toNat = L) := ⟨_, rfl⟩
    have nx : X0.length ≤ 10 := by rw [← px.out]; exact (put_length _).2
    have ny : Y0.length ≤ 10 := by rw [← py.out]; exact (put_length _).2
    have g2 := grown_cells K2.out
    refine wp_region_quiet_below (by kernel_rfl) (by kernel_rfl) ?_
    repeat (first | go_big_quiet_step (exact Calls.regrown_of (calls_val (put_int _ (by omega) (by omega) _) (by first | rw [px.out] | rw [py.out]))) | quiet_step (exact Calls.regrown_of (calls_val (put_int _ (by omega) (by omega) _) (by first | rw [px.out] | rw [py.out]))))
    refine wpQuiet_nil ?_
    intro _ hw'
    obtain ⟨⟨dq, osq⟩, hw''⟩ := hw'
    subst hw''
    clear g2 c2 l2
    obtain ⟨w3, hW⟩ : ∃ W, W = Sort.grow (redrawn w2 dq) osq := ⟨_, rfl⟩
    have hbb : Below w2.heap.size w2 w3 := by rw [hW]; exact below_regrown _ _ _
    rw [← hW]
    clear hW
    have K3 : Hid (w3.heap[w.heap.size]? = some d.o) := var_on hbb K2.out (at_lt K2.out)
    replace hB := below_on hB hbb
    clear hbb K2
    have c2 := cells_at K3.out
    rw [app3 A X0 Y0]
    obtain ⟨B, hB'⟩ : ∃ B, Hid (A ++ (X0 ++ Y0) = B) := ⟨_, rfl⟩
    rw [hB'.out]
    have b0 : Hid (bytesK d 0 = B) := bytes1 p0.out p1.out hA.out px.out py.out hB'.out hq.out
    have KE := K3
    clear K3
    go_wp2_with fail
    go_loopw [4, 37] (fun s i wr => ∃ (k : Nat) (L : List UInt8), k ≤ 4 ∧ i = .int .i64 k ∧ s = .string ⟨L.toArray⟩ ∧ bytesK d k = L ∧ wr.heap[w.heap.size]? = some d.o ∧ Below w.heap.size w wr) (fun _ i _ => 4 - (intOf i).toNat)
    case atStart => exact ⟨0, _, by omega, rfl, rfl, by rw [b0.out], KE.out, hB⟩
    case round =>
      clear hB KE
      try clear c1
      try clear c2
      obtain ⟨k, L, hk, rfl, rfl, hL, h0, hb⟩ := hrel
      have lL : L.length ≤ 200 := by rw [← hL]; have := bytesK_len d9 k; omega
      have HL := hid hL
      clear hL
      have c0 := cells_at h0
      have l0 := at_lt h0
      have H0 := hid h0
      clear h0
      obtain rfl | rfl | rfl | rfl | rfl : k = 0 ∨ k = 1 ∨ k = 2 ∨ k = 3 ∨ k = 4 := by omega
      · have hI := indexA_f0
        obtain ⟨r, hr⟩ : ∃ r, Hid (d.m.testBit 1 = r) := ⟨_, rfl⟩
        have f9 : d.f0.s.size ≤ 12 := d9 0
        obtain ⟨T, hT⟩ : ∃ T, Hid (told d.f0 = T) := ⟨_, rfl⟩
        have lT : T.length ≤ 32 := by rw [← hT.out]; exact told_len f9
        cases r
        · go_wp2_with fail
          refine (has_at (k := 1) hr.out _ (by omega) (by omega)).mono ?_
          rintro x w3 ⟨rfl, rfl⟩
          go_wp2_with fail
          first | go_roundw | refine ⟨?rel, ?measure⟩
          case rel => exact ⟨1, L, by omega, rfl, rfl, bytesK_same HL.out hr.out, old_at H0.out _, hb.alloc (by omega) _⟩
          case measure => simp [intOf]
        · go_wp2_with fail
          refine (has_at (k := 1) hr.out _ (by omega) (by omega)).mono ?_
          rintro x w3 ⟨rfl, rfl⟩
          go_wp2_with fail
          refine (told_at hT (hf 0) _).mono ?_
          rintro x w4 ⟨rfl, hb4⟩
          go_wp2_with fail
          first | go_roundw | refine ⟨?rel, ?measure⟩
          case rel => exact ⟨1, L ++ T, by omega, rfl, by rw [ByteArray.mk_append_mk], by rw [bytesK_next HL.out hr.out, ← hT.out]; rfl, var_on hb4 (old_at H0.out _) (at_lt (old_at H0.out _)), below_on (hb.alloc (by omega) _) hb4⟩
          case measure => simp [intOf]
      · have hI := indexA_f1
        obtain ⟨r, hr⟩ : ∃ r, Hid (d.m.testBit 2 = r) := ⟨_, rfl⟩
        have f9 : d.f1.s.size ≤ 12 := d9 1
        obtain ⟨T, hT⟩ : ∃ T, Hid (told d.f1 = T) := ⟨_, rfl⟩
        have lT : T.length ≤ 32 := by rw [← hT.out]; exact told_len f9
        cases r
        · go_wp2_with fail
          refine (has_at (k := 2) hr.out _ (by omega) (by omega)).mono ?_
          rintro x w3 ⟨rfl, rfl⟩
          go_wp2_with fail
          first | go_roundw | refine ⟨?rel, ?measure⟩
          case rel => exact ⟨2, L, by omega, rfl, rfl, bytesK_same HL.out hr.out, old_at H0.out _, hb.alloc (by omega) _⟩
          case measure => simp [intOf]
        · go_wp2_with fail
          refine (has_at (k := 2) hr.out _ (by omega) (by omega)).mono ?_
          rintro x w3 ⟨rfl, rfl⟩
          go_wp2_with fail
          refine (told_at hT (hf 1) _).mono ?_
          rintro x w4 ⟨rfl, hb4⟩
          go_wp2_with fail
          first | go_roundw | refine ⟨?rel, ?measure⟩
          case rel => exact ⟨2, L ++ T, by omega, rfl, by rw [ByteArray.mk_append_mk], by rw [bytesK_next HL.out hr.out, ← hT.out]; rfl, var_on hb4 (old_at H0.out _) (at_lt (old_at H0.out _)), below_on (hb.alloc (by omega) _) hb4⟩
          case measure => simp [intOf]
      · have hI := indexA_f2
        obtain ⟨r, hr⟩ : ∃ r, Hid (d.m.testBit 3 = r) := ⟨_, rfl⟩
        have f9 : d.f2.s.size ≤ 12 := d9 2
        obtain ⟨T, hT⟩ : ∃ T, Hid (told d.f2 = T) := ⟨_, rfl⟩
        have lT : T.length ≤ 32 := by rw [← hT.out]; exact told_len f9
        cases r
        · go_wp2_with fail
          refine (has_at (k := 3) hr.out _ (by omega) (by omega)).mono ?_
          rintro x w3 ⟨rfl, rfl⟩
          go_wp2_with fail
          first | go_roundw | refine ⟨?rel, ?measure⟩
          case rel => exact ⟨3, L, by omega, rfl, rfl, bytesK_same HL.out hr.out, old_at H0.out _, hb.alloc (by omega) _⟩
          case measure => simp [intOf]
        · go_wp2_with fail
          refine (has_at (k := 3) hr.out _ (by omega) (by omega)).mono ?_
          rintro x w3 ⟨rfl, rfl⟩
          go_wp2_with fail
          refine (told_at hT (hf 2) _).mono ?_
          rintro x w4 ⟨rfl, hb4⟩
          go_wp2_with fail
          first | go_roundw | refine ⟨?rel, ?measure⟩
          case rel => exact ⟨3, L ++ T, by omega, rfl, by rw [ByteArray.mk_append_mk], by rw [bytesK_next HL.out hr.out, ← hT.out]; rfl, var_on hb4 (old_at H0.out _) (at_lt (old_at H0.out _)), below_on (hb.alloc (by omega) _) hb4⟩
          case measure => simp [intOf]
      · have hI := indexA_f3
        obtain ⟨r, hr⟩ : ∃ r, Hid (d.m.testBit 4 = r) := ⟨_, rfl⟩
        have f9 : d.f3.s.size ≤ 12 := d9 3
        obtain ⟨T, hT⟩ : ∃ T, Hid (told d.f3 = T) := ⟨_, rfl⟩
        have lT : T.length ≤ 32 := by rw [← hT.out]; exact told_len f9
        cases r
        · go_wp2_with fail
          refine (has_at (k := 4) hr.out _ (by omega) (by omega)).mono ?_
          rintro x w3 ⟨rfl, rfl⟩
          go_wp2_with fail
          first | go_roundw | refine ⟨?rel, ?measure⟩
          case rel => exact ⟨4, L, by omega, rfl, rfl, bytesK_same HL.out hr.out, old_at H0.out _, hb.alloc (by omega) _⟩
          case measure => simp [intOf]
        · go_wp2_with fail
          refine (has_at (k := 4) hr.out _ (by omega) (by omega)).mono ?_
          rintro x w3 ⟨rfl, rfl⟩
          go_wp2_with fail
          refine (told_at hT (hf 3) _).mono ?_
          rintro x w4 ⟨rfl, hb4⟩
          go_wp2_with fail
          first | go_roundw | refine ⟨?rel, ?measure⟩
          case rel => exact ⟨4, L ++ T, by omega, rfl, by rw [ByteArray.mk_append_mk], by rw [bytesK_next HL.out hr.out, ← hT.out]; rfl, var_on hb4 (old_at H0.out _) (at_lt (old_at H0.out _)), below_on (hb.alloc (by omega) _) hb4⟩
          case measure => simp [intOf]
      · go_wp2_with fail
        go_ret2
        exact ⟨by rw [HL.out]; rfl, hb⟩
end
section
open Go.RowKit
set_option linter.unusedVariables false
theorem readS_err {l : List UInt8} {D : Dl} {z e b : Nat} (h : readS l b = (D, z, e)) (he : ¬ e = 0) : ∀ c, b ≤ c → readS l c = (D, z, e) := by
  intro c hc
  induction c with
  | zero => obtain rfl : b = 0 := by omega
            exact h
  | succ c ih =>
    by_cases hbc : b = c + 1
    · rw [← hbc]; exact h
    · have := ih (by omega)
      rw [readS, this]
      simp only
      rw [if_pos (by simpa using he)]
theorem read_err {l : List UInt8} {D : Dl} {z e b : Nat} (h : readS l b = (D, z, e)) (he : ¬ e = 0) (hb : b ≤ 5) : read l = (zD, 0, e) := by
  have := readS_err h he 5 hb
  unfold read
  rw [this]
  simp only
  rw [if_pos (by simpa using he)]
theorem read_bad {l : List UInt8} {D : Dl} {z : Nat} (h : readS l 5 = (D, z, 0)) (hd : isD D = false) : read l = (zD, 0, 11) := by
  unfold read
  rw [h]
  simp only
  rw [if_neg (by simp), if_pos hd]
theorem read_good {l : List UInt8} {D : Dl} {z : Nat} (h : readS l 5 = (D, z, 0)) (hd : isD D = true) : read l = (D, z, 0) := by
  unfold read
  rw [h]
  simp only
  rw [if_neg (by simp), if_neg (by simp [hd])]
theorem readS_skip {l : List UInt8} {D : Dl} {z b : Nat} (h : readS l b = (D, z, 0)) (hr : D.m.testBit b = false) : readS l (b + 1) = (D, z, 0) := by
  rw [readS, h]
  simp only
  rw [if_neg (by simp), if_pos hr]
theorem readS_pt {l : List UInt8} {D : Dl} {z x y k e : Nat} (h : readS l 0 = (D, z, 0)) (hr : D.m.testBit 0 = true) (hp : pairR (l.drop z) = (x, y, k, e)) : readS l 1 = ({ D with x := ((min x 64 : Nat) : Int), y := ((min y 64 : Nat) : Int) }, z + k, e) := by
  rw [readS, h]
  simp only
  rw [if_neg (by simp), if_neg (by simp [hr]), if_pos trivial, hp]
theorem readS_fl {l : List UInt8} {D : Dl} {z b k e : Nat} {f : Fl} (h : readS l (b + 1) = (D, z, 0)) (hr : D.m.testBit (b + 1) = true) (hp : fieldR (l.drop z) = (f, k, e)) : readS l (b + 1 + 1) = (D.set b f, z + k, e) := by
  rw [readS, h]
  simp only
  rw [if_neg (by simp), if_neg (by simp [hr]), if_neg (by omega), hp]
  rfl
def fitS (f : Fl) : Prop := f.s.size ≤ 12 ∧ isF f = true
theorem set_f {D : Dl} {b : Nat} {f : Fl} (hD : ∀ k, fitS (D.f k)) (hf : fitS f) : ∀ k, fitS ((D.set b f).f k) := by
  intro k
  obtain ⟨id, m, x, y, f0, f1, f2, f3⟩ := D
  have h0 : fitS f0 := hD 0
  have h1 : fitS f1 := hD 1
  have h2 : fitS f2 := hD 2
  have h3 : fitS f3 := hD 3
  match b, k with
  | 0, 0 => exact hf
  | 0, 1 => exact h1
  | 0, 2 => exact h2
  | 0, k + 3 => exact h3
  | 1, 0 => exact h0
  | 1, 1 => exact hf
  | 1, 2 => exact h2
  | 1, k + 3 => exact h3
  | 2, 0 => exact h0
  | 2, 1 => exact h1
  | 2, 2 => exact hf
  | 2, k + 3 => exact h3
  | b + 3, 0 => exact h0
  | b + 3, 1 => exact h1
  | b + 3, 2 => exact h2
  | b + 3, k + 3 => exact hf
theorem set_m (D : Dl) (b : Nat) (f : Fl) : (D.set b f).m = D.m := by
  match b with
  | 0 => rfl
  | 1 => rfl
  | 2 => rfl
  | b + 3 => rfl
theorem zD_f : ∀ k, fitS (zD.f k) := by
  intro k
  match k with
  | 0 => exact ⟨by decide, by decide⟩
  | 1 => exact ⟨by decide, by decide⟩
  | 2 => exact ⟨by decide, by decide⟩
  | k + 3 => exact (⟨by decide, by decide⟩ : fitS zF)
theorem headR_ok {l : List UInt8} {D : Dl} {z e : Nat} (h : headR l = (D, z, e)) : z ≤ l.length ∧ D.m ≤ 31 ∧ (∀ k, fitS (D.f k)) ∧ (e = 0 ∨ e = 10 ∨ e = 11 ∨ e = 13) := by
  rcases hg : pairR l with ⟨a, b, i, x⟩
  obtain ⟨h1, h2, h3, h4, h5, h6⟩ := pairR_ok hg
  unfold headR at h
  rw [hg] at h
  simp only at h
  split at h
  · simp only [Prod.mk.injEq] at h; obtain ⟨rfl, rfl, rfl⟩ := h; exact ⟨by omega, by decide, zD_f, by omega⟩
  · split at h
    · simp only [Prod.mk.injEq] at h; obtain ⟨rfl, rfl, rfl⟩ := h; exact ⟨by omega, by decide, zD_f, by omega⟩
    · simp only [Prod.mk.injEq] at h; obtain ⟨rfl, rfl, rfl⟩ := h
      exact ⟨by omega, by show b ≤ 31; omega, fun k => by have := zD_f k; match k with | 0 => exact this | 1 => exact this | 2 => exact this | k + 3 => exact this, by omega⟩
theorem readS_ok (l : List UInt8) : ∀ (b : Nat) (D : Dl) (z e : Nat), readS l b = (D, z, e) → z ≤ l.length ∧ D.m ≤ 31 ∧ (∀ k, fitS (D.f k)) ∧ (e = 0 ∨ e = 10 ∨ e = 11 ∨ e = 13)
  | 0, D, z, e, h => headR_ok h
  | b + 1, D, z, e, h => by
    rcases hp : readS l b with ⟨D', z', e'⟩
    obtain ⟨i1, i2, i3, i4⟩ := readS_ok l b D' z' e' hp
    by_cases he : e' = 0
    · subst he
      cases hr : D'.m.testBit b
      · rw [readS_skip hp hr] at h
        simp only [Prod.mk.injEq] at h; obtain ⟨rfl, rfl, rfl⟩ := h; exact ⟨i1, i2, i3, i4⟩
      · cases b with
        | zero =>
          rcases hq : pairR (l.drop z') with ⟨x, y, k, e2⟩
          obtain ⟨h1, h2, h3, h4, h5, h6⟩ := pairR_ok hq
          rw [List.length_drop] at h3
          rw [readS_pt hp hr hq] at h
          simp only [Prod.mk.injEq] at h; obtain ⟨rfl, rfl, rfl⟩ := h
          exact ⟨by omega, i2, i3, by omega⟩
        | succ b =>
          rcases hq : fieldR (l.drop z') with ⟨f, k, e2⟩
          obtain ⟨h1, h2, h3, h4, h5, h6⟩ := fieldR_ok hq
          rw [List.length_drop] at h2
          rw [readS_fl hp hr hq] at h
          simp only [Prod.mk.injEq] at h; obtain ⟨rfl, rfl, rfl⟩ := h
          exact ⟨by omega, by rw [set_m]; exact i2, set_f i3 ⟨h1, h5⟩, by omega⟩
    · have := readS_err hp he (b + 1) (by omega)
      rw [this] at h
      simp only [Prod.mk.injEq] at h; obtain ⟨rfl, rfl, rfl⟩ := h; exact ⟨i1, i2, i3, i4⟩
end
section
open Go.RowKit
set_option linter.unusedVariables false
theorem fin3d {D D' : Dl} {b c b' c' : Int} (h1 : D = D') (h2 : b = b') (h3 : c = c') : Ending.returned (.tuple #[D.v, .int .i64 b, .int .i64 c]) = .returned (.tuple #[D'.v, .int .i64 b', .int .i64 c']) := by rw [h1, h2, h3]
theorem fin3e {D : Dl} {z e : Nat} {r : Dl × Nat × Nat} (h : r = (D, z, e)) : Ending.returned (.tuple #[D.v, .int .i64 z, .int .i64 e]) = .returned (.tuple #[r.1.v, .int .i64 r.2.1, .int .i64 r.2.2]) := by rw [h]
set_option maxHeartbeats 1000000 in
theorem fields_bytes_no (w : World) (d : Dl) (hD : isD d = false) (hm : d.m < 256) (hs : ∀ k, (d.f k).s.size ≤ maxLen) : Calls Tryz.prog 69 #[d.v] w fun e w' => e = .returned (.tuple #[.string ⟨#[]⟩, .int .i64 11]) ∧ Below w.heap.size w w' := by
  go_enter Tryz.func69, Tryz.ntmps69
  go_wp2_with fail
  refine (fields_isDelta _ d hm hs).mono ?_
  rw [hD]
  rintro y w1 ⟨rfl, hb⟩
  have hB := below_on (below1 w d.o) hb
  go_wp2_with fail
  go_ret2
  exact ⟨rfl, hB⟩
set_option maxHeartbeats 4000000 in
theorem fields_read (w : World) (s : ByteArray) (hs : s.size ≤ 1000000) : Calls Tryz.prog 71 #[.string s] w fun e w' => e = .returned (.tuple #[(read s.data.toList).1.v, .int .i64 (read s.data.toList).2.1, .int .i64 (read s.data.toList).2.2]) ∧ Below w.heap.size w w' := by
  rcases hh : headR s.data.toList with ⟨D0, z0, e0⟩
  obtain ⟨a1, a2, a3, a4⟩ := headR_ok hh
  have HH := hid hh
  clear hh
  have K0 : Hid ((w.alloc zD.o).heap[w.heap.size]? = some zD.o) := new_at _ _ _ rfl
  go_enter Tryz.func71, Tryz.ntmps71
  go_wp2_with fail
  go_step3
  go_wp2_with fail
  refine (fields_head HH hs _).mono ?_
  rintro x w1 ⟨rfl, hb⟩
  have K1 := hid (var_on hb K0.out (at_lt K0.out))
  have l1 := at_lt K1.out
  have hB := below_on (below1 w zD.o) hb
  clear hb K0
  go_wp2_with fail
  go_step3
  go_wp2_with fail
  clear a1 a2 a3 a4
  go_loopw [6, 7, 16] (fun z e i wr => ∃ (b zN eN : Nat) (D : Dl), b ≤ 5 ∧ i = .int .i64 b ∧ z = .int .i64 zN ∧ e = .int .i64 eN ∧ readS s.data.toList b = (D, zN, eN) ∧ wr.heap[w.heap.size]? = some zD.o ∧ wr.heap[w1.heap.size]? = some D.o ∧ Below w.heap.size w wr) (fun _ _ i _ => 5 - (intOf i).toNat)
  case atStart => exact ⟨0, z0, e0, D0, by omega, rfl, rfl, rfl, HH.out, old_at K1.out _, new_at _ _ _ rfl, hB.alloc (by omega) _⟩
  case round =>
    clear hB K1 HH
    obtain ⟨b, z, e, D, hb5, rfl, rfl, rfl, hR, h0, h1, hb⟩ := hrel
    obtain ⟨a1, a2, a3, a4⟩ := readS_ok _ _ _ _ _ hR
    have a1 : z ≤ s.size := a1
    have HR := hid hR
    have c0 := cells_at h0
    have c1 := cells_at h1
    have l0 := at_lt h0
    have l2 := at_lt h1
    have H0 := hid h0
    have H1 := hid h1
    clear hR h0 h1
    by_cases he : e = 0
    · subst he
      clear a4
      obtain rfl | rfl | rfl | rfl | rfl | rfl : b = 0 ∨ b = 1 ∨ b = 2 ∨ b = 3 ∨ b = 4 ∨ b = 5 := by omega
      · obtain ⟨r, hr⟩ : ∃ r, Hid (D.m.testBit 0 = r) := ⟨_, rfl⟩
        cases r
        · go_wp2_with fail
          refine (has_at (k := 0) hr.out _ (by omega) (by omega)).mono ?_
          rintro x w3 ⟨rfl, h3⟩
          rw [h3]
          clear h3 w3
          go_wp2_with fail
          first | go_roundw | refine ⟨?rel, ?measure⟩
          case rel => exact ⟨1, z, 0, D, by omega, rfl, by simp, rfl, readS_skip HR.out hr.out, H0.out, H1.out, hb⟩
          case measure => simp [intOf]
        · rcases hp : pairR (s.data.toList.drop z) with ⟨x, y, k, e⟩
          obtain ⟨b1, b2, b3, b4, b5, b6⟩ := pairR_ok hp
          have hp' : Hid (pairR (s.extract z s.size).data.toList = (x, y, k, e)) := by rw [cut_data]; exact hp
          have HP := hid hp
          clear hp b3 b5 b6
          go_wp2_with fail
          refine (has_at (k := 0) hr.out _ (by omega) (by omega)).mono ?_
          rintro x w3 ⟨rfl, h3⟩
          rw [h3]
          clear h3 w3
          go_wp2_with fail
          refine (fields_point hp' (by rw [ByteArray.size_extract]; omega) _).mono ?_
          rintro x w4 ⟨rfl, hb4⟩
          have M0 := hid (var_on hb4 H0.out l0)
          have M1 := hid (var_on hb4 H1.out l2)
          have hB4 := below_on hb hb4
          have c4 := cells_at M1.out
          have l4 := at_lt M1.out
          clear hb4 hb H0 H1 c0 c1
          go_wp2_with fail
          first | go_roundw | refine ⟨?rel, ?measure⟩
          case rel => exact ⟨1, z + k, e, _, by omega, rfl, by simp, rfl, readS_pt HR.out hr.out HP.out, set_off (set_off M0.out (by omega) _) (by omega) _, set_at (set_at M1.out _ rfl) _ rfl, (hB4.setCell (by simp; omega) _).setCell (by simp; omega) _⟩
          case measure => simp [intOf]
      · obtain ⟨r, hr⟩ : ∃ r, Hid (D.m.testBit 1 = r) := ⟨_, rfl⟩
        cases r
        · go_wp2_with fail
          refine (has_at (k := 1) hr.out _ (by omega) (by omega)).mono ?_
          rintro x w3 ⟨rfl, h3⟩
          rw [h3]
          clear h3 w3
          go_wp2_with fail
          first | go_roundw | refine ⟨?rel, ?measure⟩
          case rel => exact ⟨2, z, 0, D, by omega, rfl, by simp, rfl, readS_skip HR.out hr.out, H0.out, H1.out, hb⟩
          case measure => simp [intOf]
        · rcases hp : fieldR (s.data.toList.drop z) with ⟨f, k, e⟩
          obtain ⟨b1, b2, b3, b4, b5, b6⟩ := fieldR_ok hp
          have hp' : Hid (fieldR (s.extract z s.size).data.toList = (f, k, e)) := by rw [cut_data]; exact hp
          have HP := hid hp
          clear hp b2 b4 b5 b6
          go_wp2_with fail
          refine (has_at (k := 1) hr.out _ (by omega) (by omega)).mono ?_
          rintro x w3 ⟨rfl, h3⟩
          rw [h3]
          clear h3 w3
          go_wp2_with fail
          refine (fields_field hp' (by rw [ByteArray.size_extract]; omega) _).mono ?_
          rintro x w4 ⟨rfl, hb4⟩
          have M0 := hid (var_on hb4 H0.out l0)
          have M1 := hid (var_on hb4 H1.out l2)
          have hB4 := below_on hb hb4
          have c4 := cells_at M1.out
          have l4 := at_lt M1.out
          clear hb4 hb H0 H1 c0 c1
          go_wp2_with fail
          first | go_roundw | refine ⟨?rel, ?measure⟩
          case rel => exact ⟨2, z + k, e, _, by omega, rfl, by simp, rfl, readS_fl (b := 0) HR.out hr.out HP.out, set_off (set_off M0.out (by omega) _) (by omega) _, set_at (set_at M1.out _ rfl) _ rfl, (hB4.setCell (by simp; omega) _).setCell (by simp; omega) _⟩
          case measure => simp [intOf]
      · obtain ⟨r, hr⟩ : ∃ r, Hid (D.m.testBit 2 = r) := ⟨_, rfl⟩
        cases r
        · go_wp2_with fail
          refine (has_at (k := 2) hr.out _ (by omega) (by omega)).mono ?_
          rintro x w3 ⟨rfl, h3⟩
          rw [h3]
          clear h3 w3
          go_wp2_with fail
          first | go_roundw | refine ⟨?rel, ?measure⟩
          case rel => exact ⟨3, z, 0, D, by omega, rfl, by simp, rfl, readS_skip HR.out hr.out, H0.out, H1.out, hb⟩
          case measure => simp [intOf]
        · rcases hp : fieldR (s.data.toList.drop z) with ⟨f, k, e⟩
          obtain ⟨b1, b2, b3, b4, b5, b6⟩ := fieldR_ok hp
          have hp' : Hid (fieldR (s.extract z s.size).data.toList = (f, k, e)) := by rw [cut_data]; exact hp
          have HP := hid hp
          clear hp b2 b4 b5 b6
          go_wp2_with fail
          refine (has_at (k := 2) hr.out _ (by omega) (by omega)).mono ?_
          rintro x w3 ⟨rfl, h3⟩
          rw [h3]
          clear h3 w3
          go_wp2_with fail
          refine (fields_field hp' (by rw [ByteArray.size_extract]; omega) _).mono ?_
          rintro x w4 ⟨rfl, hb4⟩
          have M0 := hid (var_on hb4 H0.out l0)
          have M1 := hid (var_on hb4 H1.out l2)
          have hB4 := below_on hb hb4
          have c4 := cells_at M1.out
          have l4 := at_lt M1.out
          clear hb4 hb H0 H1 c0 c1
          go_wp2_with fail
          first | go_roundw | refine ⟨?rel, ?measure⟩
          case rel => exact ⟨3, z + k, e, _, by omega, rfl, by simp, rfl, readS_fl (b := 1) HR.out hr.out HP.out, set_off (set_off M0.out (by omega) _) (by omega) _, set_at (set_at M1.out _ rfl) _ rfl, (hB4.setCell (by simp; omega) _).setCell (by simp; omega) _⟩
          case measure => simp [intOf]
      · obtain ⟨r, hr⟩ : ∃ r, Hid (D.m.testBit 3 = r) := ⟨_, rfl⟩
        cases r
        · go_wp2_with fail
          refine (has_at (k := 3) hr.out _ (by omega) (by omega)).mono ?_
          rintro x w3 ⟨rfl, h3⟩
          rw [h3]
          clear h3 w3
          go_wp2_with fail
          first | go_roundw | refine ⟨?rel, ?measure⟩
          case rel => exact ⟨4, z, 0, D, by omega, rfl, by simp, rfl, readS_skip HR.out hr.out, H0.out, H1.out, hb⟩
          case measure => simp [intOf]
        · rcases hp : fieldR (s.data.toList.drop z) with ⟨f, k, e⟩
          obtain ⟨b1, b2, b3, b4, b5, b6⟩ := fieldR_ok hp
          have hp' : Hid (fieldR (s.extract z s.size).data.toList = (f, k, e)) := by rw [cut_data]; exact hp
          have HP := hid hp
          clear hp b2 b4 b5 b6
          go_wp2_with fail
          refine (has_at (k := 3) hr.out _ (by omega) (by omega)).mono ?_
          rintro x w3 ⟨rfl, h3⟩
          rw [h3]
          clear h3 w3
          go_wp2_with fail
          refine (fields_field hp' (by rw [ByteArray.size_extract]; omega) _).mono ?_
          rintro x w4 ⟨rfl, hb4⟩
          have M0 := hid (var_on hb4 H0.out l0)
          have M1 := hid (var_on hb4 H1.out l2)
          have hB4 := below_on hb hb4
          have c4 := cells_at M1.out
          have l4 := at_lt M1.out
          clear hb4 hb H0 H1 c0 c1
          go_wp2_with fail
          first | go_roundw | refine ⟨?rel, ?measure⟩
          case rel => exact ⟨4, z + k, e, _, by omega, rfl, by simp, rfl, readS_fl (b := 2) HR.out hr.out HP.out, set_off (set_off M0.out (by omega) _) (by omega) _, set_at (set_at M1.out _ rfl) _ rfl, (hB4.setCell (by simp; omega) _).setCell (by simp; omega) _⟩
          case measure => simp [intOf]
      · obtain ⟨r, hr⟩ : ∃ r, Hid (D.m.testBit 4 = r) := ⟨_, rfl⟩
        cases r
        · go_wp2_with fail
          refine (has_at (k := 4) hr.out _ (by omega) (by omega)).mono ?_
          rintro x w3 ⟨rfl, h3⟩
          rw [h3]
          clear h3 w3
          go_wp2_with fail
          first | go_roundw | refine ⟨?rel, ?measure⟩
          case rel => exact ⟨5, z, 0, D, by omega, rfl, by simp, rfl, readS_skip HR.out hr.out, H0.out, H1.out, hb⟩
          case measure => simp [intOf]
        · rcases hp : fieldR (s.data.toList.drop z) with ⟨f, k, e⟩
          obtain ⟨b1, b2, b3, b4, b5, b6⟩ := fieldR_ok hp
          have hp' : Hid (fieldR (s.extract z s.size).data.toList = (f, k, e)) := by rw [cut_data]; exact hp
          have HP := hid hp
          clear hp b2 b4 b5 b6
          go_wp2_with fail
          refine (has_at (k := 4) hr.out _ (by omega) (by omega)).mono ?_
          rintro x w3 ⟨rfl, h3⟩
          rw [h3]
          clear h3 w3
          go_wp2_with fail
          refine (fields_field hp' (by rw [ByteArray.size_extract]; omega) _).mono ?_
          rintro x w4 ⟨rfl, hb4⟩
          have M0 := hid (var_on hb4 H0.out l0)
          have M1 := hid (var_on hb4 H1.out l2)
          have hB4 := below_on hb hb4
          have c4 := cells_at M1.out
          have l4 := at_lt M1.out
          clear hb4 hb H0 H1 c0 c1
          go_wp2_with fail
          first | go_roundw | refine ⟨?rel, ?measure⟩
          case rel => exact ⟨5, z + k, e, _, by omega, rfl, by simp, rfl, readS_fl (b := 3) HR.out hr.out HP.out, set_off (set_off M0.out (by omega) _) (by omega) _, set_at (set_at M1.out _ rfl) _ rfl, (hB4.setCell (by simp; omega) _).setCell (by simp; omega) _⟩
          case measure => simp [intOf]
      · cases hd : isD D
        · have Hd := hid hd
          clear hd
          go_wp2_with fail
          refine (fields_isDelta _ D (by omega) (fun k => by have := (a3 k).1; unfold maxLen; omega)).mono ?_
          rw [Hd.out]
          rintro x w4 ⟨rfl, hb4⟩
          have M0 := hid (var_on hb4 H0.out l0)
          have M1 := hid (var_on hb4 H1.out l2)
          have hB4 := below_on hb hb4
          have c4 := cells_at M0.out
          have c5 := cells_at M1.out
          have l4 := at_lt M0.out
          clear hb4 hb H0 H1 c0 c1
          go_wp2_with fail
          rw [Exit.noGoto_ret]
          exact bodyPost_ret (v := .tuple #[zD.v, .int .i64 0, .int .i64 11]) (by simp [results, Tryz.results71, go_sem, c4, zD, zF]) rfl ⟨fin3e (read_bad HR.out Hd.out), below_set12 hB4 (by omega) _ _ _ _ _ _ _ _ _ _ _ _⟩
        · have Hd := hid hd
          clear hd
          go_wp2_with fail
          refine (fields_isDelta _ D (by omega) (fun k => by have := (a3 k).1; unfold maxLen; omega)).mono ?_
          rw [Hd.out]
          rintro x w4 ⟨rfl, hb4⟩
          have M0 := hid (var_on hb4 H0.out l0)
          have M1 := hid (var_on hb4 H1.out l2)
          have hB4 := below_on hb hb4
          have c4 := cells_at M0.out
          have c5 := cells_at M1.out
          have l4 := at_lt M0.out
          clear hb4 hb H0 H1 c0 c1
          go_wp2_with fail
          rw [Exit.noGoto_ret]
          exact bodyPost_ret (v := .tuple #[D.v, .int .i64 z, .int .i64 0]) (by simp [results, Tryz.results71, go_sem, c4]) rfl ⟨fin3e (read_good HR.out Hd.out), below_set12 hB4 (by omega) _ _ _ _ _ _ _ _ _ _ _ _⟩
    · have q1 : ((e : Int) != 0) = true := by simpa using he
      have q2 : ((e : Int) == 0) = false := by simpa using he
      have HE := hid he
      clear he
      by_cases hlt : b < 5
      · go_wp2_with fail
        rw [Exit.noGoto_ret]
        exact bodyPost_ret (v := .tuple #[zD.v, .int .i64 0, .int .i64 e]) (by simp [results, Tryz.results71, go_sem, c0, zD, zF]) rfl ⟨fin3e (read_err HR.out HE.out hb5), below_set12 hb (by omega) _ _ _ _ _ _ _ _ _ _ _ _⟩
      · go_wp2_with fail
        rw [Exit.noGoto_ret]
        exact bodyPost_ret (v := .tuple #[zD.v, .int .i64 0, .int .i64 e]) (by simp [results, Tryz.results71, go_sem, c0, zD, zF]) rfl ⟨fin3e (read_err HR.out HE.out hb5), below_set12 hb (by omega) _ _ _ _ _ _ _ _ _ _ _ _⟩
end
section
open Go.RowKit
set_option linter.unusedVariables false
theorem pairR_1 {l : List UInt8} {n i x : Nat} (h : get l = (n, i, x)) (hx : ¬ x = 0) : pairR l = (0, 0, 0, x) := by
  unfold pairR; rw [h]; simp only; rw [if_pos (by simpa using hx)]
theorem pairR_2 {l : List UInt8} {n i n' i' x' : Nat} (h : get l = (n, i, 0)) (h' : get (l.drop i) = (n', i', x')) (hx : ¬ x' = 0) : pairR l = (0, 0, 0, x') := by
  unfold pairR; rw [h]; simp only; rw [h']; simp only; rw [if_neg (by simp), if_pos (by simpa using hx)]
theorem pairR_3 {l : List UInt8} {n i n' i' : Nat} (h : get l = (n, i, 0)) (h' : get (l.drop i) = (n', i', 0)) : pairR l = (n, n', i + i', 0) := by
  unfold pairR; rw [h]; simp only; rw [h']; simp only; rw [if_neg (by simp), if_neg (by simp)]
theorem headR_1 {l : List UInt8} {a b k x : Nat} (h : pairR l = (a, b, k, x)) (hx : ¬ x = 0) : headR l = (zD, 0, x) := by
  unfold headR; rw [h]; simp only; rw [if_pos (by simpa using hx)]
theorem headR_2 {l : List UInt8} {a b k : Nat} (h : pairR l = (a, b, k, 0)) (hx : 1000000 < a ∨ b = 0 ∨ 31 < b) : headR l = (zD, 0, 11) := by
  unfold headR; rw [h]; simp only; rw [if_neg (by simp), if_pos hx]
theorem headR_3 {l : List UInt8} {a b k : Nat} (h : pairR l = (a, b, k, 0)) (h1 : a ≤ 1000000) (h2 : 1 ≤ b) (h3 : b ≤ 31) : headR l = (⟨a, b, 0, 0, zF, zF, zF, zF⟩, k, 0) := by
  unfold headR; rw [h]; simp only; rw [if_neg (by simp), if_neg (by omega)]
theorem fieldR_1 {l u : List UInt8} {i x : Nat} (h : texts l 12 = (u, i, x)) (hx : ¬ x = 0) : fieldR l = (zF, 0, x) := by
  unfold fieldR; rw [h]; simp only; rw [if_pos (by simpa using hx)]
theorem fieldR_2 {l u : List UInt8} {i : Nat} (h : texts l 12 = (u, i, 0)) (hu : ¬ u = []) : fieldR l = (⟨0, ⟨u.toArray⟩⟩, i, 0) := by
  unfold fieldR; rw [h]; simp only; rw [if_neg (by simp), if_pos (by simpa using hu)]
theorem fieldR_3 {l : List UInt8} {i n k x : Nat} (h : texts l 12 = ([], i, 0)) (hg : get (l.drop i) = (n, k, x)) (hx : ¬ x = 0) : fieldR l = (zF, 0, x) := by
  unfold fieldR; rw [h]; simp only; rw [hg]; simp only; rw [if_neg (by simp), if_neg (by simp), if_pos (by simpa using hx)]
theorem fieldR_4 {l : List UInt8} {i n k : Nat} (h : texts l 12 = ([], i, 0)) (hg : get (l.drop i) = (n, k, 0)) : fieldR l = (⟨zag n, ⟨#[]⟩⟩, i + k, 0) := by
  unfold fieldR; rw [h]; simp only; rw [hg]; simp only; rw [if_neg (by simp), if_neg (by simp), if_neg (by simp)]
theorem set_far (D : Dl) (b : Nat) (f : Fl) (j : Nat) (hb : b < j) (hj : j < 4) : (D.set b f).f j = D.f j := by
  obtain ⟨id, m, x, y, f0, f1, f2, f3⟩ := D
  match b, j with
  | 0, 1 => rfl
  | 0, 2 => rfl
  | 0, 3 => rfl
  | 1, 2 => rfl
  | 1, 3 => rfl
  | 2, 3 => rfl
  | 0, j + 4 => omega
  | 1, j + 4 => omega
  | 2, j + 4 => omega
  | b + 3, j => omega
theorem readS_z (l : List UInt8) : ∀ (b : Nat) (D : Dl) (z e : Nat), readS l b = (D, z, e) → ∀ j, b ≤ j + 1 → j < 4 → D.f j = zF
  | 0, D, z, e, h, j, hj, hj4 => by
    have h : headR l = (D, z, e) := h
    rcases hg : pairR l with ⟨a, b, i, x⟩
    have hz : zD.f j = zF := by
      match j with
      | 0 => rfl
      | 1 => rfl
      | 2 => rfl
      | j + 3 => rfl
    by_cases hx : x = 0
    · subst hx
      by_cases hb : 1000000 < a ∨ b = 0 ∨ 31 < b
      · rw [headR_2 hg hb] at h; simp only [Prod.mk.injEq] at h; obtain ⟨rfl, _⟩ := h; exact hz
      · rw [headR_3 hg (by omega) (by omega) (by omega)] at h; simp only [Prod.mk.injEq] at h; obtain ⟨rfl, _⟩ := h
        match j with
        | 0 => rfl
        | 1 => rfl
        | 2 => rfl
        | j + 3 => rfl
    · rw [headR_1 hg hx] at h; simp only [Prod.mk.injEq] at h; obtain ⟨rfl, _⟩ := h; exact hz
  | b + 1, D, z, e, h, j, hj, hj4 => by
    rcases hp : readS l b with ⟨D', z', e'⟩
    have ih := readS_z l b D' z' e' hp
    by_cases he : e' = 0
    · subst he
      cases hr : D'.m.testBit b
      · rw [readS_skip hp hr] at h
        simp only [Prod.mk.injEq] at h; obtain ⟨rfl, _⟩ := h; exact ih j (by omega) hj4
      · cases b with
        | zero =>
          rcases hq : pairR (l.drop z') with ⟨x, y, k, e2⟩
          rw [readS_pt hp hr hq] at h
          simp only [Prod.mk.injEq] at h; obtain ⟨rfl, _⟩ := h
          have := ih j (by omega) hj4
          match j with
          | 0 => exact this
          | 1 => exact this
          | 2 => exact this
          | j + 3 => exact this
        | succ b =>
          rcases hq : fieldR (l.drop z') with ⟨f, k, e2⟩
          rw [readS_fl hp hr hq] at h
          simp only [Prod.mk.injEq] at h; obtain ⟨rfl, _⟩ := h
          rw [set_far D' b f j (by omega) hj4]
          exact ih j (by omega) hj4
    · have := readS_err hp he (b + 1) (by omega)
      rw [this] at h
      simp only [Prod.mk.injEq] at h; obtain ⟨rfl, _⟩ := h; exact ih j (by omega) hj4
def Dl.at (D : Dl) (x y : Int) : Dl := { D with x := x, y := y }
def Alt (D : Dl) (x y : Int) : Prop := (x = D.x ∧ y = D.y) ∨ (onB x y = false ∧ onB D.x D.y = false)
theorem alt_isD {D : Dl} {x y : Int} (h : Alt D x y) : isD (D.at x y) = isD D ∧ (isD D = true → D.at x y = D) := by
  rcases h with ⟨rfl, rfl⟩ | ⟨h1, h2⟩
  · exact ⟨rfl, fun _ => rfl⟩
  · have e1 : isD (D.at x y) = false := by
      unfold isD
      rw [show onB (D.at x y).x (D.at x y).y = false from h1]; simp
    have e2 : isD D = false := by unfold isD; rw [h2]; simp
    rw [e1, e2]
    exact ⟨rfl, fun h => by cases h⟩
theorem alt_pt (D : Dl) (x y : Nat) : Alt { D with x := ((min x 64 : Nat) : Int), y := ((min y 64 : Nat) : Int) } ((min x 1048577 : Nat) : Int) ((min y 1048577 : Nat) : Int) := by
  by_cases h : x < 64 ∧ y < 64
  · left
    constructor
    · show ((min x 1048577 : Nat) : Int) = ((min x 64 : Nat) : Int); omega
    · show ((min y 1048577 : Nat) : Int) = ((min y 64 : Nat) : Int); omega
  · right
    constructor
    · cases hc : onB ((min x 1048577 : Nat) : Int) ((min y 1048577 : Nat) : Int)
      · rfl
      · simp [onB, inB] at hc; omega
    · show onB ((min x 64 : Nat) : Int) ((min y 64 : Nat) : Int) = false
      cases hc : onB ((min x 64 : Nat) : Int) ((min y 64 : Nat) : Int)
      · rfl
      · simp [onB, inB] at hc; omega
theorem at_f (D : Dl) (x y : Int) (k : Nat) : (D.at x y).f k = D.f k := by
  match k with
  | 0 => rfl
  | 1 => rfl
  | 2 => rfl
  | k + 3 => rfl
theorem set_alt {D : Dl} {x y : Int} (h : Alt D x y) (k : Nat) (f : Fl) : Alt (D.set k f) x y := by
  match k with
  | 0 => exact h
  | 1 => exact h
  | 2 => exact h
  | k + 3 => exact h
end
section
open Go.RowKit
set_option linter.unusedVariables false
theorem reftexts_at {s u : ByteArray} {k e : Nat} (h : Hid (texts s.data.toList 12 = (u.data.toList, k, e))) (hs : s.size ≤ 281474976710656) (w : World) :
    Calls Tryz.prog 36 #[.string s, .int .i64 12] w fun x w' => x = .returned (.tuple #[.string u, .int .i64 k, .int .i64 e]) ∧ w' = w := by
  have := ref_texts s 12 hs (by omega) (by omega) w
  rw [h.out] at this
  exact this
theorem fieldR_at {l : List UInt8} {z i : Nat} {r : Nat × Nat × Nat} (h : get (l.drop (z + i)) = r) : get ((l.drop z).drop i) = r := by rw [List.drop_drop]; exact h
end
section
open Go.RowKit Go.ChangeShapes Go.WideShapes Go.Deep Go.Joins
set_option linter.unusedVariables false
set_option maxRecDepth 100000
def inF (f : Fl) : Prop := f.s.size ≤ maxLen ∧ -9223372036854775808 ≤ f.n ∧ f.n ≤ 9223372036854775807
def inT (t : Th) : Prop := inF t.f0 ∧ inF t.f1 ∧ inF t.f2 ∧ inF t.f3
def inD (d : Dl) : Prop := d.m < 256 ∧ inF d.f0 ∧ inF d.f1 ∧ inF d.f2 ∧ inF d.f3
theorem array11 {α : Type} {cs : Array α} (h : cs.size = 11) : ∃ c0 c1 c2 c3 c4 c5 c6 c7 c8 c9 c10, cs = #[c0, c1, c2, c3, c4, c5, c6, c7, c8, c9, c10] := by
  obtain ⟨l⟩ := cs
  match l, h with
  | [c0, c1, c2, c3, c4, c5, c6, c7, c8, c9, c10], _ => exact ⟨c0, c1, c2, c3, c4, c5, c6, c7, c8, c9, c10, rfl⟩
theorem array12 {α : Type} {cs : Array α} (h : cs.size = 12) : ∃ c0 c1 c2 c3 c4 c5 c6 c7 c8 c9 c10 c11, cs = #[c0, c1, c2, c3, c4, c5, c6, c7, c8, c9, c10, c11] := by
  obtain ⟨l⟩ := cs
  match l, h with
  | [c0, c1, c2, c3, c4, c5, c6, c7, c8, c9, c10, c11], _ => exact ⟨c0, c1, c2, c3, c4, c5, c6, c7, c8, c9, c10, c11, rfl⟩
theorem cellsOf3 : Tryz.prog.cellsOf 3 = 1 := by kernel_rfl
theorem cellsOf2 : Tryz.prog.cellsOf 2 = 1 := by kernel_rfl
theorem cellsOf5 : Tryz.prog.cellsOf 5 = 1 := by kernel_rfl
theorem cellsOf9 : Tryz.prog.cellsOf 9 = 1 := by kernel_rfl
theorem cellsOf23 : Tryz.prog.cellsOf 45 = 2 := by kernel_rfl
theorem cellsOf25 : Tryz.prog.cellsOf 47 = 2 := by kernel_rfl
theorem cellsOf26 : Tryz.prog.cellsOf 48 = 8 := by kernel_rfl
theorem cellsOf28 : Tryz.prog.cellsOf 50 = 11 := by kernel_rfl
theorem cellsOf30 : Tryz.prog.cellsOf 123 = 12 := by kernel_rfl
section
variable {H : Type} {enc : TypeId × Value → H} {w : World} {base : Nat} {spare : Nat → Bool} {held : Bool} {r : Reach} {b0 : Nat} {v : Value} {d : DataW H} {p : List MemPlace}
theorem i64_bounds {n : Int} (h : (Lit.int .i64 n).wf = true) : -9223372036854775808 ≤ n ∧ n ≤ 9223372036854775807 := by
  simp [Lit.wf, IntKind.min, IntKind.max, IntKind.signed, IntKind.bits] at h
  omega
theorem u8_bounds {n : Int} (h : (Lit.int .u8 n).wf = true) : 0 ≤ n ∧ n < 256 := by
  simp [Lit.wf, IntKind.min, IntKind.max, IntKind.signed, IntKind.bits] at h
  omega
theorem trod_fl {fuel : Nat} {c0 c1 : Value} {x : DataW H × List MemPlace} (h : DataW.trod enc Tryz.prog w base spare held fuel 47 [c0, c1] = some x) : ∃ f : Fl, c0 = .int .i64 f.n ∧ c1 = .string f.s ∧ inF f := by
  obtain ⟨y0, y1, n, _, _, h0, h1⟩ := trod_struct2 Tryz.underlying47 h
  simp only [cellsOf2, cellsOf9, List.drop_zero, List.take_succ_cons, List.take_zero, List.drop_succ_cons] at h0 h1
  obtain ⟨a, e0, _, w0⟩ := DataW.trod_int Tryz.underlying2 h0
  obtain ⟨s, e1, _, w1⟩ := DataW.trod_string Tryz.underlying9 h1
  simp only [List.cons.injEq, and_true] at e0 e1
  exact ⟨⟨a, s⟩, e0, e1, w1, i64_bounds w0⟩
theorem trod_pt {fuel : Nat} {c0 c1 : Value} {x : DataW H × List MemPlace} (h : DataW.trod enc Tryz.prog w base spare held fuel 45 [c0, c1] = some x) : ∃ a b : Int, c0 = .int .i64 a ∧ c1 = .int .i64 b := by
  obtain ⟨y0, y1, n, _, _, h0, h1⟩ := trod_struct2 Tryz.underlying45 h
  simp only [cellsOf3, List.drop_zero, List.take_succ_cons, List.take_zero, List.drop_succ_cons] at h0 h1
  obtain ⟨a, e0, _, w0⟩ := DataW.trod_int Tryz.underlying3 h0
  obtain ⟨b, e1, _, w1⟩ := DataW.trod_int Tryz.underlying3 h1
  simp only [List.cons.injEq, and_true] at e0 e1
  exact ⟨a, b, e0, e1⟩
theorem trod_fs {fuel : Nat} {c0 c1 c2 c3 c4 c5 c6 c7 : Value} {x : DataW H × List MemPlace} (h : DataW.trod enc Tryz.prog w base spare held fuel 48 [c0, c1, c2, c3, c4, c5, c6, c7] = some x) :
    ∃ f0 f1 f2 f3 : Fl, c0 = .int .i64 f0.n ∧ c1 = .string f0.s ∧ c2 = .int .i64 f1.n ∧ c3 = .string f1.s ∧ c4 = .int .i64 f2.n ∧ c5 = .string f2.s ∧ c6 = .int .i64 f3.n ∧ c7 = .string f3.s ∧ inF f0 ∧ inF f1 ∧ inF f2 ∧ inF f3 := by
  obtain ⟨xs, m, _, _, _, hl, hf⟩ := DataW.trod_array Tryz.underlying48 h
  match xs, hl with
  | [y0, y1, y2, y3], _ =>
    have h0 := hf 0 (by omega)
    have h1 := hf 1 (by omega)
    have h2 := hf 2 (by omega)
    have h3 := hf 3 (by omega)
    simp [cellsOf25] at h0 h1 h2 h3
    obtain ⟨f0, a0, b0, i0⟩ := trod_fl h0
    obtain ⟨f1, a1, b1, i1⟩ := trod_fl h1
    obtain ⟨f2, a2, b2, i2⟩ := trod_fl h2
    obtain ⟨f3, a3, b3, i3⟩ := trod_fl h3
    exact ⟨f0, f1, f2, f3, a0, b0, a1, b1, a2, b2, a3, b3, i0, i1, i2, i3⟩
theorem open_fl (hv : Value.okWide Tryz.prog w r b0 47 v) (h : DataW.Trod enc Tryz.prog w base spare held 47 v d p) : ∃ f : Fl, v = f.v ∧ inF f := by
  obtain ⟨cs, rfl, hsz⟩ := okWide_struct Tryz.underlying47 hv
  obtain ⟨c0, c1, rfl⟩ := array2 (hsz.trans cellsOf25)
  obtain ⟨fuel, hf⟩ := h
  obtain ⟨f, rfl, rfl, hi⟩ := trod_fl (by simpa [Value.cells] using hf)
  exact ⟨f, rfl, hi⟩
theorem open_th (hv : Value.okWide Tryz.prog w r b0 50 v) (h : DataW.Trod enc Tryz.prog w base spare held 50 v d p) : ∃ t : Th, v = t.v ∧ inT t := by
  obtain ⟨cs, rfl, hsz⟩ := okWide_struct Tryz.underlying50 hv
  obtain ⟨c0, c1, c2, c3, c4, c5, c6, c7, c8, c9, c10, rfl⟩ := array11 (hsz.trans cellsOf28)
  obtain ⟨fuel, hf⟩ := h
  obtain ⟨y0, y1, y2, n, _, _, h0, h1, h2⟩ := trod_struct3 Tryz.underlying50 hf
  simp [Value.cells, cellsOf3, cellsOf23, cellsOf26] at h0 h1 h2
  obtain ⟨id, e0, _, _⟩ := DataW.trod_int Tryz.underlying3 h0
  obtain ⟨x, y, rfl, rfl⟩ := trod_pt h1
  obtain ⟨f0, f1, f2, f3, rfl, rfl, rfl, rfl, rfl, rfl, rfl, rfl, i0, i1, i2, i3⟩ := trod_fs h2
  simp only [List.cons.injEq, and_true] at e0
  subst e0
  exact ⟨⟨id, x, y, f0, f1, f2, f3⟩, rfl, i0, i1, i2, i3⟩
theorem open_dl (hv : Value.okWide Tryz.prog w r b0 123 v) (h : DataW.Trod enc Tryz.prog w base spare held 123 v d p) : ∃ t : Dl, v = t.v ∧ inD t := by
  obtain ⟨cs, rfl, hsz⟩ := okWide_struct Tryz.underlying123 hv
  obtain ⟨c0, c1, c2, c3, c4, c5, c6, c7, c8, c9, c10, c11, rfl⟩ := array12 (hsz.trans cellsOf30)
  obtain ⟨fuel, hf⟩ := h
  obtain ⟨y0, y1, y2, y3, n, _, _, h0, h1, h2, h3⟩ := trod_struct4 Tryz.underlying123 hf
  simp [Value.cells, cellsOf3, cellsOf5, cellsOf23, cellsOf26] at h0 h1 h2 h3
  obtain ⟨id, e0, _, _⟩ := DataW.trod_int Tryz.underlying3 h0
  obtain ⟨m, e1, _, w1⟩ := DataW.trod_int Tryz.underlying5 h1
  obtain ⟨x, y, rfl, rfl⟩ := trod_pt h2
  obtain ⟨f0, f1, f2, f3, rfl, rfl, rfl, rfl, rfl, rfl, rfl, rfl, i0, i1, i2, i3⟩ := trod_fs h3
  simp only [List.cons.injEq, and_true] at e0 e1
  subst e0 e1
  have hm := u8_bounds w1
  obtain ⟨k, rfl⟩ := Int.eq_ofNat_of_zero_le hm.1
  exact ⟨⟨id, k, x, y, f0, f1, f2, f3⟩, rfl, by show k < 256; omega, i0, i1, i2, i3⟩
end
end
end Go.Proofs.YtpedngbjpbeanaaGreatDoor
