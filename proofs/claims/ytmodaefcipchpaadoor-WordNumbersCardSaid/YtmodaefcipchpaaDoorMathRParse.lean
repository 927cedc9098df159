/-
  Plain mathematics: what the digits of a text come to.
-/
import Derived.Test.YtmodaefcipchpaaDoorRNum
namespace Go.Proofs.YtmodaefcipchpaaDoor
open Go.RowKit

/-- what digits come to -/
def lf : List UInt8 → Int
  | l => l.foldl (fun a c => 10 * a + ((c.toNat : Int) - 48)) 0
theorem lf_snoc (l : List UInt8) (c : UInt8) : lf (l ++ [c]) = 10 * lf l + ((c.toNat : Int) - 48) := by unfold lf; rw [List.foldl_append]; rfl
theorem lf_nil : lf [] = 0 := rfl
theorem lf_dF : ∀ (k u : Nat), u < 10 ^ (k + 1) → lf (dF k u) = u
  | 0, u, h => by
    have h' : u < 10 := by simpa using h
    unfold dF
    show lf ([] ++ [UInt8.ofNat (48 + u)]) = _
    rw [lf_snoc, lf_nil, Sp.digit_of u h']; omega
  | k + 1, u, h => by
    unfold dF
    by_cases h' : u < 10
    · rw [if_pos h']
      show lf ([] ++ [UInt8.ofNat (48 + u)]) = _
      rw [lf_snoc, lf_nil, Sp.digit_of u h']; omega
    · have e : 10 ^ (k + 1 + 1) = 10 ^ (k + 1) * 10 := Nat.pow_succ 10 (k + 1)
      rw [if_neg h', lf_snoc, lf_dF k (u / 10) (by omega), Sp.digit_of (u % 10) (by omega)]; omega
theorem lf_dec (u : Nat) (h : u ≤ 9223372036854775808) : lf (Lib.decDigits u) = u := by rw [dF_eq 18 u (by omega)]; exact lf_dF 18 u (by omega)
theorem itoa_pos (v : Int) (h : 0 ≤ v) : Lib.itoa v = Lib.decDigits v.toNat := by unfold Lib.itoa; rw [if_neg (by omega)]
theorem itoa_neg (v : Int) (h : v < 0) : Lib.itoa v = 45 :: Lib.decDigits v.natAbs := by unfold Lib.itoa; rw [if_pos h]
theorem itoa_most (v : Int) (h0 : -9223372036854775808 ≤ v) (h1 : v ≤ 9223372036854775807) : (Lib.itoa v).length ≤ 20 := by
  by_cases h : 0 ≤ v
  · rw [itoa_pos v h]; have := dec_len v.toNat (by omega); omega
  · rw [itoa_neg v (by omega)]; have := dec_len v.natAbs (by omega); simp; omega
/-- a text too long, or without digits where they belong, is no number's form -/
theorem parse_long (l : List UInt8) (h : 20 < l.length) : Sp.parse l = none := by
  cases hp : Sp.parse l with
  | none => rfl
  | some v =>
    obtain ⟨e, h0, h1⟩ := Sp.parse_some hp
    have := itoa_most v h0 h1
    rw [e] at this; omega
theorem parse_head (l : List UInt8) (v : Int) (hp : Sp.parse l = some v) : (v < 0 → l = 45 :: Lib.decDigits v.natAbs) ∧ (0 ≤ v → l = Lib.decDigits v.toNat) := by
  obtain ⟨e, -, -⟩ := Sp.parse_some hp
  exact ⟨fun h => by rw [← e, itoa_neg v h], fun h => by rw [← e, itoa_pos v h]⟩
/-- without a sign -/
theorem parse_plain_no (l : List UInt8) (hl : l.head? ≠ some 45) (c : UInt8) (hc : c ∈ l) (hn : c.toNat < 48 ∨ 57 < c.toNat) : Sp.parse l = none := by
  cases hp : Sp.parse l with
  | none => rfl
  | some v =>
    obtain ⟨a, b⟩ := parse_head l v hp
    by_cases h : 0 ≤ v
    · have := Sp.dec_digits v.toNat c (by rw [← b h]; exact hc); omega
    · rw [a (by omega)] at hl; exact absurd rfl hl
theorem parse_sign_no (r : List UInt8) (c : UInt8) (hc : c ∈ r) (hn : c.toNat < 48 ∨ 57 < c.toNat) : Sp.parse (45 :: r) = none := by
  cases hp : Sp.parse (45 :: r) with
  | none => rfl
  | some v =>
    obtain ⟨a, b⟩ := parse_head _ v hp
    by_cases h : 0 ≤ v
    · have := Sp.dec_digits v.toNat 45 (by rw [← b h]; exact List.mem_cons_self); exact absurd this (by decide)
    · have e := a (by omega)
      rw [List.cons.injEq] at e
      have := Sp.dec_digits v.natAbs c (by rw [← e.2]; exact hc); omega
def wr64 (x : Int) : Int := IntKind.i64.wrap x
theorem wr64_in (x : Int) : -9223372036854775808 ≤ wr64 x ∧ wr64 x ≤ 9223372036854775807 := by unfold wr64; rw [IntKind.wrap_i64]; omega
theorem wr64_id (x : Int) (h0 : -9223372036854775808 ≤ x) (h1 : x ≤ 9223372036854775807) : wr64 x = x := by unfold wr64; rw [IntKind.wrap_i64]; omega
theorem wr64_add (x d : Int) : IntKind.i64.wrap (IntKind.i64.wrap (10 * wr64 x) + d) = wr64 (10 * x + d) := by unfold wr64; simp only [IntKind.wrap_i64]; omega
theorem wr64_sub (x d : Int) : IntKind.i64.wrap (IntKind.i64.wrap (10 * wr64 (-x)) - d) = wr64 (-(10 * x + d)) := by unfold wr64; simp only [IntKind.wrap_i64]; omega
/-- at the end: the number whose form it is, or none -/
theorem parse_end_plain (l : List UInt8) (hl : l.head? ≠ some 45) : Sp.parse l = if Lib.itoa (wr64 (lf l)) = l then some (wr64 (lf l)) else none := by
  have hb := wr64_in (lf l)
  by_cases h : Lib.itoa (wr64 (lf l)) = l
  · rw [if_pos h]
    have := Sp.parse_of (wr64 (lf l)) hb.1 hb.2
    rw [h] at this; exact this
  · rw [if_neg h]
    cases hp : Sp.parse l with
    | none => rfl
    | some v =>
      exfalso
      obtain ⟨e, h0, h1⟩ := Sp.parse_some hp
      obtain ⟨a, b⟩ := parse_head l v hp
      by_cases hv : 0 ≤ v
      · have hf : lf l = v := by rw [b hv, lf_dec _ (by omega)]; omega
        rw [hf, wr64_id v h0 h1] at h; exact h e
      · rw [a (by omega)] at hl; exact absurd rfl hl
theorem parse_end_sign (r : List UInt8) : Sp.parse (45 :: r) = if Lib.itoa (wr64 (-lf r)) = 45 :: r then some (wr64 (-lf r)) else none := by
  have hb := wr64_in (-lf r)
  by_cases h : Lib.itoa (wr64 (-lf r)) = 45 :: r
  · rw [if_pos h]
    have := Sp.parse_of (wr64 (-lf r)) hb.1 hb.2
    rw [h] at this; exact this
  · rw [if_neg h]
    cases hp : Sp.parse (45 :: r) with
    | none => rfl
    | some v =>
      exfalso
      obtain ⟨e, h0, h1⟩ := Sp.parse_some hp
      obtain ⟨a, b⟩ := parse_head _ v hp
      by_cases hv : 0 ≤ v
      · have := Sp.dec_digits v.toNat 45 (by rw [← b hv]; exact List.mem_cons_self); exact absurd this (by decide)
      · have e2 := a (by omega)
        rw [List.cons.injEq] at e2
        have hf : -lf r = v := by rw [e2.2, lf_dec _ (by omega)]; omega
        rw [hf, wr64_id v h0 h1] at h; exact h e
end Go.Proofs.YtmodaefcipchpaaDoor
