/-
  Plain mathematics: a name with more of its own bytes.
-/
import Derived.Test.YtmodaefcipchpabDoorMathChain
namespace Go.Proofs.YtmodaefcipchpabDoor.Sp

theorem name_iff (s : ByteArray) : nameB s = true ↔ 1 ≤ s.size ∧ s.size ≤ 32 ∧ ∀ i, i < s.size → okAt i (bt s i) := by
  unfold nameB
  rw [decide_eq_true_iff]
theorem name_big (s : ByteArray) (h : s.size < 1 ∨ 32 < s.size) : nameB s = false := by
  cases e : nameB s with
  | false => rfl
  | true => have := (name_iff s).1 e; omega
theorem ok_later {i j b : Nat} (h : okAt i b) (hj : j ≠ 0) : okAt j b := by
  unfold okAt at h ⊢
  rcases h with h | ⟨h, -⟩
  · exact .inl h
  · exact .inr ⟨h, hj⟩
def letterA : ByteArray := ⟨#[97]⟩
theorem letterA_size : letterA.size = 1 := by decide
theorem letterA_ok : okAt 0 (bt letterA 0) := by
  unfold okAt
  left
  decide +kernel

theorem more_no (s : ByteArray) (h : nameB s = false) (h1 : 1 ≤ s.size) (h2 : s.size ≤ 32) : nameB (letterA ++ s.extract 1 s.size) = false ∨ nameB (s.extract 0 1) = false := by
  cases ea : nameB (letterA ++ s.extract 1 s.size) with
  | false => exact .inl rfl
  | true =>
    cases eb : nameB (s.extract 0 1) with
    | false => exact .inr rfl
    | true =>
      exfalso
      obtain ⟨-, -, ha⟩ := (name_iff _).1 ea
      obtain ⟨-, -, hb⟩ := (name_iff _).1 eb
      have z1 : (letterA ++ s.extract 1 s.size).size = s.size := by simp [letterA_size]; omega
      have z2 : (s.extract 0 1).size = 1 := by simp; omega
      have : nameB s = true := by
        rw [name_iff]
        refine ⟨h1, h2, fun i hi => ?_⟩
        by_cases h0 : i = 0
        · subst h0
          have := hb 0 (by omega)
          rw [bt_extract s 0 1 0 (by omega)] at this
          exact this
        · have := ha i (by omega)
          rw [bt_append, letterA_size, if_neg (by omega), bt_extract s 1 s.size (i - 1) (by omega), show 1 + (i - 1) = i by omega] at this
          exact this
      rw [h] at this
      cases this

theorem more_twice (s : ByteArray) (h : nameB s = true) : nameB (s ++ s) = decide (2 * s.size ≤ 32) := by
  obtain ⟨h1, h2, h3⟩ := (name_iff s).1 h
  have z : (s ++ s).size = s.size + s.size := by simp
  by_cases hb : 2 * s.size ≤ 32
  · rw [decide_eq_true hb, name_iff]
    refine ⟨by omega, by omega, fun i hi => ?_⟩
    rw [bt_append]
    by_cases hl : i < s.size
    · rw [if_pos hl]; exact h3 i hl
    · rw [if_neg hl]; exact ok_later (h3 (i - s.size) (by omega)) (by omega)
  · rw [decide_eq_false hb]
    exact name_big _ (by omega)

theorem more_part (s : ByteArray) (h : nameB s = true) (m : Nat) (hm : m < s.size) : nameB (s.extract 0 (m + 1)) = true := by
  obtain ⟨h1, h2, h3⟩ := (name_iff s).1 h
  have z : (s.extract 0 (m + 1)).size = m + 1 := by simp; omega
  rw [name_iff]
  refine ⟨by omega, by omega, fun i hi => ?_⟩
  rw [bt_extract s 0 (m + 1) i (by omega), Nat.zero_add]
  exact h3 i (by omega)

theorem more_size (s x : ByteArray) (hx : x.size = 1) (m : Nat) (hm : m < s.size) : (s.extract 0 (m + 1) ++ x ++ s.extract (m + 1) s.size).size = s.size + 1 := by
  simp [hx]; omega
theorem more_at (s x : ByteArray) (hx : x.size = 1) (m : Nat) (hm : m < s.size) (i : Nat) (hi : i < s.size + 1) :
    bt (s.extract 0 (m + 1) ++ x ++ s.extract (m + 1) s.size) i = if i ≤ m then bt s i else if i = m + 1 then bt x 0 else bt s (i - 1) := by
  have z1 : (s.extract 0 (m + 1)).size = m + 1 := by simp; omega
  have z2 : (s.extract 0 (m + 1) ++ x).size = m + 2 := by simp [hx]; omega
  rw [bt_append, z2, bt_append, z1]
  by_cases h0 : i ≤ m
  · rw [if_pos (by omega), if_pos (by omega), if_pos h0, bt_extract s 0 (m + 1) i (by omega), Nat.zero_add]
  · rw [if_neg h0]
    by_cases h1 : i = m + 1
    · rw [if_pos (by omega), if_neg (by omega), if_pos h1, show i - (m + 1) = 0 by omega]
    · rw [if_neg (by omega), if_neg h1, bt_extract s (m + 1) s.size (i - (m + 2)) (by omega), show m + 1 + (i - (m + 2)) = i - 1 by omega]

theorem more_put (s x : ByteArray) (hx : x.size = 1) (h : nameB s = true) (m : Nat) (hm : m < s.size) (hz : s.size + 1 ≤ 32) :
    nameB (s.extract 0 (m + 1) ++ x ++ s.extract (m + 1) s.size) = nameB (letterA ++ x) := by
  obtain ⟨h1, h2, h3⟩ := (name_iff s).1 h
  have z1 := more_size s x hx m hm
  have z2 : (letterA ++ x).size = 2 := by simp [letterA_size, hx]
  rw [Bool.eq_iff_iff, name_iff, name_iff, z1, z2]
  constructor
  · rintro ⟨-, -, ha⟩
    refine ⟨by omega, by omega, fun i hi => ?_⟩
    rw [bt_append, letterA_size]
    by_cases h0 : i = 0
    · subst h0; rw [if_pos (by omega)]; exact letterA_ok
    · rw [if_neg (by omega), show i - 1 = 0 by omega]
      have := ha (m + 1) (by omega)
      rw [more_at s x hx m hm _ (by omega), if_neg (by omega), if_pos rfl] at this
      exact ok_later this h0
  · rintro ⟨-, -, ha⟩
    have hb := ha 1 (by omega)
    rw [bt_append, letterA_size, if_neg (by omega), show 1 - 1 = 0 by omega] at hb
    refine ⟨by omega, by omega, fun i hi => ?_⟩
    rw [more_at s x hx m hm i hi]
    by_cases h0 : i ≤ m
    · rw [if_pos h0]; exact h3 i (by omega)
    · rw [if_neg h0]
      by_cases he : i = m + 1
      · rw [if_pos he]; exact ok_later hb (by omega)
      · rw [if_neg he]; exact ok_later (h3 (i - 1) (by omega)) (by omega)
end Go.Proofs.YtmodaefcipchpabDoor.Sp
