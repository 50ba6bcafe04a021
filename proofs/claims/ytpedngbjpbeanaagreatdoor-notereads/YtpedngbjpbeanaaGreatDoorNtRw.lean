/- Plain facts that NoteReads wants. -/
import Derived.Test.YtpedngbjpbeanaaGreatDoorNtRd
import Derived.Deep.RegionHeld3
namespace Go.Proofs.YtpedngbjpbeanaaGreatDoor
open Go.RowKit
set_option linter.unusedVariables false
theorem byte_xor (b : UInt8) (n : Nat) (hn : n < 256) : ∃ y : UInt8, bits .xor .u8 (b.toNat : Int) (n : Int) = (y.toNat : Int) := by
  have hx := u8_xor_nat b.toNat n b.toNat_lt hn
  have hl : b.toNat ^^^ n < 256 := Nat.xor_lt_two_pow (n := 8) b.toNat_lt hn
  refine ⟨UInt8.ofNat (b.toNat ^^^ n), ?_⟩
  rw [hx]
  simp [Nat.mod_eq_of_lt hn]
theorem note_pos (n : Nt) : 0 < (noteB n).length := by
  have := (put_length n.fr.toNat).1
  unfold noteB
  simp only [List.length_append]
  omega
end Go.Proofs.YtpedngbjpbeanaaGreatDoor
