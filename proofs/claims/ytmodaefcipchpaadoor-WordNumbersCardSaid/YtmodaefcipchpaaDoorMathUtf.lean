/-
  Plain mathematics: texts that are UTF-8.
-/
import Derived.Test.YtmodaefcipchpaaDoorMathRat
namespace Go.Proofs.YtmodaefcipchpaaDoor.Sp

theorem dec_some {s : ByteArray} {j : Nat} {c : Int} {n : Nat} (h : dec s j = some (c, n)) :
    (n = 1 ∧ ok1 s j ∧ c = bt s j) ∨ (n = 2 ∧ ok2 s j ∧ c = c2 s j) ∨ (n = 3 ∧ ok3 s j ∧ c = c3 s j) ∨ (n = 4 ∧ ok4 s j ∧ c = c4 s j) := by
  unfold dec at h
  by_cases h1 : ok1 s j
  · rw [if_pos h1] at h; simp only [Option.some.injEq, Prod.mk.injEq] at h; exact .inl ⟨h.2.symm, h1, h.1.symm⟩
  · rw [if_neg h1] at h
    by_cases h2 : ok2 s j
    · rw [if_pos h2] at h; simp only [Option.some.injEq, Prod.mk.injEq] at h; exact .inr (.inl ⟨h.2.symm, h2, h.1.symm⟩)
    · rw [if_neg h2] at h
      by_cases h3 : ok3 s j
      · rw [if_pos h3] at h; simp only [Option.some.injEq, Prod.mk.injEq] at h; exact .inr (.inr (.inl ⟨h.2.symm, h3, h.1.symm⟩))
      · rw [if_neg h3] at h
        by_cases h4 : ok4 s j
        · rw [if_pos h4] at h; simp only [Option.some.injEq, Prod.mk.injEq] at h; exact .inr (.inr (.inr ⟨h.2.symm, h4, h.1.symm⟩))
        · rw [if_neg h4] at h; cases h
theorem dec_room {s : ByteArray} {j : Nat} {c : Int} {n : Nat} (h : dec s j = some (c, n)) : 1 ≤ n ∧ n ≤ 4 ∧ j + n ≤ s.size := by
  rcases dec_some h with ⟨e, k, -⟩ | ⟨e, k, -⟩ | ⟨e, k, -⟩ | ⟨e, k, -⟩
  · unfold ok1 at k; omega
  · unfold ok2 at k; omega
  · unfold ok3 at k; omega
  · unfold ok4 at k; omega

/-- from a place on, character by character (so many at the most), to the end -/
def utf8From (s : ByteArray) : Nat → Nat → Bool
  | 0, j => decide (s.size ≤ j)
  | f + 1, j => if s.size ≤ j then true else match dec s j with
    | none => false
    | some (_, n) => utf8From s f (j + n)
def utf8 (s : ByteArray) : Bool := utf8From s s.size 0
theorem from_end (s : ByteArray) (f j : Nat) (h : s.size ≤ j) : utf8From s f j = true := by
  cases f with
  | zero => simp [utf8From, h]
  | succ f => simp [utf8From, h]
theorem from_none (s : ByteArray) (f j : Nat) (h : j < s.size) (hd : dec s j = none) : utf8From s f j = false := by
  cases f with
  | zero => simp [utf8From]; omega
  | succ f => simp only [utf8From]; rw [if_neg (by omega), hd]
theorem from_some (s : ByteArray) (f j : Nat) (c : Int) (n : Nat) (h : j < s.size) (hf : s.size ≤ j + f) (hd : dec s j = some (c, n)) : ∃ g, s.size ≤ j + n + g ∧ utf8From s f j = utf8From s g (j + n) := by
  have hn := dec_room hd
  cases f with
  | zero => omega
  | succ f => exact ⟨f, by omega, by simp only [utf8From]; rw [if_neg (by omega), hd]⟩
end Go.Proofs.YtmodaefcipchpaaDoor.Sp
