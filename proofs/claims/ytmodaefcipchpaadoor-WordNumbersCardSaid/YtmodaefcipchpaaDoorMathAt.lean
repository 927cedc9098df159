/-
  Plain mathematics: the character that begins at a place of a text.
-/
import Derived.Test.YtmodaefcipchpaaDoorMath
namespace Go.Proofs.YtmodaefcipchpaaDoor.Sp

/-! The character that begins at a place. -/
def c2 (s : ByteArray) (j : Nat) : Int := ((bt s j : Int) - 192) * 64 + ((bt s (j + 1) : Int) - 128)
def c3 (s : ByteArray) (j : Nat) : Int := (((bt s j : Int) - 224) * 64 + ((bt s (j + 1) : Int) - 128)) * 64 + ((bt s (j + 2) : Int) - 128)
def c4 (s : ByteArray) (j : Nat) : Int := ((((bt s j : Int) - 240) * 64 + ((bt s (j + 1) : Int) - 128)) * 64 + ((bt s (j + 2) : Int) - 128)) * 64 + ((bt s (j + 3) : Int) - 128)
def cont (s : ByteArray) (j : Nat) : Prop := 128 ≤ bt s j ∧ bt s j < 192
instance (s : ByteArray) (j : Nat) : Decidable (cont s j) := by unfold cont; infer_instance
def ok1 (s : ByteArray) (j : Nat) : Prop := j + 1 ≤ s.size ∧ bt s j < 128
def ok2 (s : ByteArray) (j : Nat) : Prop := j + 2 ≤ s.size ∧ 192 ≤ bt s j ∧ bt s j < 224 ∧ cont s (j + 1) ∧ sizeOf (c2 s j) = 2
def ok3 (s : ByteArray) (j : Nat) : Prop := j + 3 ≤ s.size ∧ 224 ≤ bt s j ∧ bt s j < 240 ∧ cont s (j + 1) ∧ cont s (j + 2) ∧ sizeOf (c3 s j) = 3
def ok4 (s : ByteArray) (j : Nat) : Prop := j + 4 ≤ s.size ∧ 240 ≤ bt s j ∧ bt s j < 248 ∧ cont s (j + 1) ∧ cont s (j + 2) ∧ cont s (j + 3) ∧ sizeOf (c4 s j) = 4
instance (s : ByteArray) (j : Nat) : Decidable (ok1 s j) := by unfold ok1; infer_instance
instance (s : ByteArray) (j : Nat) : Decidable (ok2 s j) := by unfold ok2; infer_instance
instance (s : ByteArray) (j : Nat) : Decidable (ok3 s j) := by unfold ok3; infer_instance
instance (s : ByteArray) (j : Nat) : Decidable (ok4 s j) := by unfold ok4; infer_instance
/-- the character that begins at a place, and how many bytes it has -/
def dec (s : ByteArray) (j : Nat) : Option (Int × Nat) :=
  if ok1 s j then some ((bt s j : Int), 1) else if ok2 s j then some (c2 s j, 2) else if ok3 s j then some (c3 s j, 3) else if ok4 s j then some (c4 s j, 4) else none
def decAt (s : ByteArray) (i : Int) : Option (Int × Nat) := if i < 0 then none else dec s i.toNat
theorem dec_1 {s : ByteArray} {j : Nat} (h : ok1 s j) : dec s j = some ((bt s j : Int), 1) := by unfold dec; rw [if_pos h]
theorem dec_2 {s : ByteArray} {j : Nat} (h : ok2 s j) : dec s j = some (c2 s j, 2) := by
  unfold dec; rw [if_neg (by unfold ok1; unfold ok2 at h; omega), if_pos h]
theorem dec_3 {s : ByteArray} {j : Nat} (h : ok3 s j) : dec s j = some (c3 s j, 3) := by
  unfold dec; rw [if_neg (by unfold ok1; unfold ok3 at h; omega), if_neg (by unfold ok2; unfold ok3 at h; omega), if_pos h]
theorem dec_4 {s : ByteArray} {j : Nat} (h : ok4 s j) : dec s j = some (c4 s j, 4) := by
  unfold dec; rw [if_neg (by unfold ok1; unfold ok4 at h; omega), if_neg (by unfold ok2; unfold ok4 at h; omega), if_neg (by unfold ok3; unfold ok4 at h; omega), if_pos h]
theorem dec_0 {s : ByteArray} {j : Nat} (h1 : ¬ ok1 s j) (h2 : ¬ ok2 s j) (h3 : ¬ ok3 s j) (h4 : ¬ ok4 s j) : dec s j = none := by
  unfold dec; rw [if_neg h1, if_neg h2, if_neg h3, if_neg h4]

theorem dec_out {s : ByteArray} {j : Nat} (h : s.size ≤ j) : dec s j = none :=
  dec_0 (by unfold ok1; omega) (by unfold ok2; omega) (by unfold ok3; omega) (by unfold ok4; omega)
theorem dec_none0 {s : ByteArray} {j : Nat} (h : (128 ≤ bt s j ∧ bt s j < 192) ∨ 248 ≤ bt s j) : dec s j = none :=
  dec_0 (by unfold ok1; omega) (by unfold ok2; omega) (by unfold ok3; omega) (by unfold ok4; omega)
theorem dec_none2 {s : ByteArray} {j : Nat} (h0 : 192 ≤ bt s j) (h1 : bt s j < 224) (h : ¬ (j + 2 ≤ s.size ∧ cont s (j + 1) ∧ sizeOf (c2 s j) = 2)) : dec s j = none :=
  dec_0 (by unfold ok1; omega) (fun hh => h ⟨hh.1, hh.2.2.2.1, hh.2.2.2.2⟩) (by unfold ok3; omega) (by unfold ok4; omega)
theorem dec_none3 {s : ByteArray} {j : Nat} (h0 : 224 ≤ bt s j) (h1 : bt s j < 240) (h : ¬ (j + 3 ≤ s.size ∧ cont s (j + 1) ∧ cont s (j + 2) ∧ sizeOf (c3 s j) = 3)) : dec s j = none :=
  dec_0 (by unfold ok1; omega) (by unfold ok2; omega) (fun hh => h ⟨hh.1, hh.2.2.2.1, hh.2.2.2.2.1, hh.2.2.2.2.2⟩) (by unfold ok4; omega)
theorem dec_none4 {s : ByteArray} {j : Nat} (h0 : 240 ≤ bt s j) (h1 : bt s j < 248) (h : ¬ (j + 4 ≤ s.size ∧ cont s (j + 1) ∧ cont s (j + 2) ∧ cont s (j + 3) ∧ sizeOf (c4 s j) = 4)) : dec s j = none :=
  dec_0 (by unfold ok1; omega) (by unfold ok2; omega) (by unfold ok3; omega) (fun hh => h ⟨hh.1, hh.2.2.2.1, hh.2.2.2.2.1, hh.2.2.2.2.2.1, hh.2.2.2.2.2.2⟩)
end Go.Proofs.YtmodaefcipchpaaDoor.Sp
