/-
  Plain mathematics: how a quoted byte is read.
-/
import Derived.Test.YtmodaefcipchpaaDoorQuote
import Derived.Lib.Strings
namespace Go.Proofs.YtmodaefcipchpaaDoor

/-- a digit's number; 16, if it is none -/
def hexv (b : Nat) : Nat := if 48 ≤ b ∧ b ≤ 57 then b - 48 else if 97 ≤ b ∧ b ≤ 102 then b - 87 else 16
/-- the byte that so many bytes begin with, and how many it is written in -/
def readQ (m b0 b1 b2 b3 : Nat) : Option (Nat × Nat) :=
  if b0 ≠ 92 then (if 3 ≤ Sp.kind b0 then some (b0, 1) else none)
  else if 1 < m ∧ b1 = 110 then some (10, 2)
  else if 1 < m ∧ Sp.kind b1 = 2 then some (b1, 2)
  else if 3 < m ∧ b1 = 120 ∧ hexv b2 < 16 ∧ hexv b3 < 16 ∧ Sp.kind (hexv b2 * 16 + hexv b3) = 0 then some (hexv b2 * 16 + hexv b3, 4)
  else none
theorem digits_all : ∀ b : Fin 256, Lib.indexByte [48, 49, 50, 51, 52, 53, 54, 55, 56, 57, 97, 98, 99, 100, 101, 102] (UInt8.ofNat b.val) = if hexv b.val < 16 then (hexv b.val : Int) else -1 := by decide +kernel
theorem hexv_le (b : Nat) : hexv b ≤ 16 := by
  unfold hexv
  by_cases h : 48 ≤ b ∧ b ≤ 57
  · rw [if_pos h]; omega
  · rw [if_neg h]
    by_cases h' : 97 ≤ b ∧ b ≤ 102
    · rw [if_pos h']; omega
    · rw [if_neg h']; omega
end Go.Proofs.YtmodaefcipchpaaDoor
