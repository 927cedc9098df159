/-
  Plain mathematics: a number's form, and what is read as a number.
-/
import Derived.Test.YtmodaefcipchpaaDoorRows
import Derived.Lib.ParseIntB
import Derived.Lib.ItoaNum
namespace Go.Proofs.YtmodaefcipchpaaDoor.Sp
open Go.Lib

theorem digit_of (u : Nat) (h : u < 10) : (UInt8.ofNat (48 + u)).toNat = 48 + u := by rw [UInt8.toNat_ofNat']; omega
theorem dec_digits : ∀ (u : Nat), ∀ c ∈ decDigits u, 48 ≤ c.toNat ∧ c.toNat ≤ 57 := by
  intro u
  induction u using Nat.strongRecOn with
  | _ u ih =>
    intro c hc
    rw [decDigits] at hc
    by_cases h : u < 10
    · rw [dif_pos h] at hc
      simp only [List.mem_cons, List.not_mem_nil, or_false] at hc
      subst hc; rw [digit_of u h]; omega
    · rw [dif_neg h] at hc
      rcases List.mem_append.1 hc with hc | hc
      · exact ih (u / 10) (by omega) c hc
      · simp only [List.mem_cons, List.not_mem_nil, or_false] at hc
        subst hc; rw [digit_of _ (by omega)]; omega
theorem dec_ne (u : Nat) : decDigits u ≠ [] := by
  rw [decDigits]
  by_cases h : u < 10
  · rw [dif_pos h]; simp
  · rw [dif_neg h]; simp

theorem parse_append (M : Nat) : ∀ (l r : List UInt8) (a b : Nat), parseUintM M a l = .ok b → parseUintM M a (l ++ r) = parseUintM M b r := by
  intro l
  induction l with
  | nil => intro r a b h; simp only [parseUintM, NumEnd.ok.injEq] at h; subst h; rfl
  | cons c l ih =>
    intro r a b h
    rw [List.cons_append]
    conv => lhs; unfold parseUintM
    unfold parseUintM at h
    by_cases h1 : 48 ≤ c.toNat ∧ c.toNat ≤ 57
    · rw [if_pos h1] at h ⊢
      by_cases h2 : 1844674407370955162 ≤ a
      · rw [if_pos h2] at h; cases h
      · rw [if_neg h2] at h ⊢
        by_cases h3 : M < a * 10 + (c.toNat - 48)
        · rw [if_pos h3] at h; cases h
        · rw [if_neg h3] at h ⊢
          exact ih r _ b h
    · rw [if_neg h1] at h; cases h
theorem parse_one (M a d : Nat) (hd : d < 10) (ha : a < 1844674407370955162) (hM : a * 10 + d ≤ M) : parseUintM M a [UInt8.ofNat (48 + d)] = .ok (a * 10 + d) := by
  unfold parseUintM
  rw [digit_of d hd, if_pos (by omega), if_neg (by omega), show 48 + d - 48 = d from by omega, if_neg (by omega)]
  rfl
theorem parse_dec (M : Nat) (hM : M ≤ 18446744073709551615) : ∀ (u : Nat), u ≤ M → parseUintM M 0 (decDigits u) = .ok u := by
  intro u
  induction u using Nat.strongRecOn with
  | _ u ih =>
    intro hu
    rw [decDigits]
    by_cases h : u < 10
    · rw [dif_pos h, parse_one M 0 u h (by omega) (by omega)]
      congr 1; omega
    · rw [dif_neg h, parse_append M _ _ _ _ (ih (u / 10) (by omega) (by omega)), parse_one M (u / 10) (u % 10) (by omega) (by omega) (by omega)]
      congr 1; omega

theorem parse_itoa (n : Int) (h0 : -9223372036854775808 ≤ n) (h1 : n ≤ 9223372036854775807) : parseIntB 64 (itoa n) = .ok n := by
  unfold itoa
  by_cases hn : n < 0
  · rw [if_pos hn]
    unfold parseIntB
    have h45 : (45 : UInt8).toNat = 45 := rfl
    simp only [h45, or_true, if_true]
    have : parseUintB 64 (decDigits n.natAbs) = .ok n.natAbs := by
      unfold parseUintB
      rw [if_neg (dec_ne _)]
      exact parse_dec _ (by omega) _ (by omega)
    rw [this]
    simp only [not_true_eq_false, false_and, if_false, true_and]
    rw [if_neg (by omega)]
    congr 1; omega
  · rw [if_neg hn]
    unfold parseIntB
    cases hd : decDigits n.toNat with
    | nil => exact absurd hd (dec_ne _)
    | cons c r =>
      have hc := dec_digits n.toNat c (by rw [hd]; exact List.mem_cons_self)
      have hc45 : ¬ c.toNat = 45 := by omega
      have hc43' : ¬ c.toNat = 43 := by omega
      simp only [hc43', hc45, or_self, if_false]
      have : parseUintB 64 (c :: r) = .ok n.toNat := by
        rw [← hd]
        unfold parseUintB
        rw [if_neg (dec_ne _)]
        exact parse_dec _ (by omega) _ (by omega)
      rw [this]
      simp only [not_false_eq_true, true_and, false_and, if_false]
      rw [if_neg (by omega)]
      congr 1; omega

/-- the number whose form a text is -/
def parse (l : List UInt8) : Option Int := match parseIntB 64 l with
  | .ok v => if itoa v = l then some v else none
  | _ => none
theorem parse_bounds (l : List UInt8) (v : Int) (h : parseIntB 64 l = .ok v) : -9223372036854775808 ≤ v ∧ v ≤ 9223372036854775807 := by
  unfold parseIntB at h
  cases l with
  | nil => cases h
  | cons c r =>
    simp only at h
    cases hu : parseUintB 64 (if c.toNat = 43 ∨ c.toNat = 45 then r else c :: r)
    case ok u =>
      rw [hu] at h
      simp only at h
      by_cases hn : c.toNat = 45
      · rw [if_neg (by simp [hn])] at h
        by_cases h2 : 2 ^ (64 - 1) < u
        · rw [if_pos ⟨hn, h2⟩] at h; cases h
        · rw [if_neg (fun x => h2 x.2), if_pos hn] at h
          simp only [NumEnd.ok.injEq] at h
          omega
      · by_cases h1 : 2 ^ (64 - 1) ≤ u
        · rw [if_pos ⟨hn, h1⟩] at h; cases h
        · rw [if_neg (fun x => h1 x.2), if_neg (fun x => hn x.1), if_neg hn] at h
          simp only [NumEnd.ok.injEq] at h
          omega
    all_goals (rw [hu] at h; cases h)
theorem parse_some {l : List UInt8} {v : Int} (h : parse l = some v) : itoa v = l ∧ -9223372036854775808 ≤ v ∧ v ≤ 9223372036854775807 := by
  unfold parse at h
  cases hp : parseIntB 64 l
  case ok u =>
    rw [hp] at h
    simp only at h
    by_cases he : itoa u = l
    · rw [if_pos he] at h
      simp only [Option.some.injEq] at h
      subst h
      exact ⟨he, parse_bounds l u hp⟩
    · rw [if_neg he] at h; cases h
  all_goals (rw [hp] at h; cases h)
theorem parse_of (n : Int) (h0 : -9223372036854775808 ≤ n) (h1 : n ≤ 9223372036854775807) : parse (itoa n) = some n := by
  unfold parse
  rw [parse_itoa n h0 h1]
  exact if_pos rfl
end Go.Proofs.YtmodaefcipchpaaDoor.Sp
