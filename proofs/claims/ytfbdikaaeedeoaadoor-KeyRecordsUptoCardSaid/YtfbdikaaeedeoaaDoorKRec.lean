/-
  Records as plain mathematics: items, their bytes, and what may not be.
-/
import Derived.Test.YtfbdikaaeedeoaaDoorKMath
namespace Go.Proofs.YtfbdikaaeedeoaaDoor.Ky

/-- items: the first one (its kind, number, text, list), then the others -/
inductive Its where
  | nil : Its
  | cons (k : UInt8) (n : Int) (s : List UInt8) (sub rest : Its) : Its
def Its.len : Its → Nat
  | .nil => 0
  | .cons _ _ _ _ r => r.len + 1
def Its.size : Its → Nat
  | .nil => 0
  | .cons _ _ _ sub r => sub.size + r.size + 1
def Its.weight : Its → Nat
  | .nil => 0
  | .cons _ _ s sub r => s.length + sub.weight + r.weight + 1
def Its.fits : Its → Prop
  | .nil => True
  | .cons _ n _ sub r => (-9223372036854775808 ≤ n ∧ n ≤ 9223372036854775807) ∧ sub.fits ∧ r.fits
theorem Its.len_size : ∀ t : Its, t.len ≤ t.size
  | .nil => Nat.le_refl _
  | .cons _ _ _ sub r => by have := Its.len_size r; simp only [Its.len, Its.size]; omega
theorem Its.size_weight : ∀ t : Its, t.size ≤ t.weight
  | .nil => Nat.le_refl _
  | .cons _ _ s sub r => by have := Its.size_weight r; have := Its.size_weight sub; simp only [Its.weight, Its.size]; omega
def ok1 (k : UInt8) (n : Int) (s : List UInt8) (m : Nat) : Bool :=
  if k = 1 then s.isEmpty && m == 0 else if k = 2 then n == 0 && m == 0 else if k = 3 then n == 0 && s.isEmpty else false
def cnt (n : Nat) : List UInt8 := if n < 128 then [UInt8.ofNat n] else UInt8.ofNat (n % 128 + 128) :: cnt (n / 128)
decreasing_by omega
theorem cnt_small {n : Nat} (h : n < 128) : cnt n = [UInt8.ofNat n] := by rw [cnt, if_pos h]
theorem cnt_more {n : Nat} (h : ¬ n < 128) : cnt n = UInt8.ofNat (n % 128 + 128) :: cnt (n / 128) := by rw [cnt, if_neg h]
theorem cnt_len : ∀ (k n : Nat), n < 128 ^ (k + 1) → (cnt n).length ≤ k + 1 := by
  intro k
  induction k with
  | zero => intro n h; rw [cnt_small (by simpa using h)]; exact Nat.le_refl _
  | succ k ih =>
    intro n h
    by_cases h0 : n < 128
    · rw [cnt_small h0]; simp
    · rw [cnt_more h0, List.length_cons]
      have := ih (n / 128) (by rw [Nat.div_lt_iff_lt_mul (by decide), ← Nat.pow_succ]; exact h)
      omega
theorem cnt_len64 (n : Nat) (h : n < 18446744073709551616) : (cnt n).length ≤ 10 := cnt_len 9 n (Nat.lt_of_lt_of_le h (by decide))
theorem cnt_ne (n : Nat) : cnt n ≠ [] := by
  by_cases h : n < 128
  · rw [cnt_small h]; simp
  · rw [cnt_more h]; simp
def folded (n : Int) : Nat := if n < 0 then (-2 * n - 1).toNat else (2 * n).toNat
def unfolded (u : Nat) : Int := if u % 2 = 1 then -((u / 2 : Nat) : Int) - 1 else ((u / 2 : Nat) : Int)
theorem folded_lt (n : Int) (h1 : -9223372036854775808 ≤ n) (h2 : n ≤ 9223372036854775807) : folded n < 18446744073709551616 := by
  unfold folded
  split <;> omega
theorem unfolded_folded (n : Int) : unfolded (folded n) = n := by
  unfold folded unfolded
  split
  · rw [if_pos (by omega)]; omega
  · rw [if_neg (by omega)]; omega
theorem folded_unfolded (u : Nat) : folded (unfolded u) = u := by
  unfold folded unfolded
  split
  · rw [if_pos (by omega)]; omega
  · rw [if_neg (by omega)]; omega
/-- the error that is told -/
def encE (deep : Nat) : Its → Int
  | .nil => 0
  | .cons k n s sub r => if ok1 k n s sub.len then (if k = 3 then (if 16 < deep then 84 else if encE (deep + 1) sub = 0 then encE deep r else encE (deep + 1) sub) else encE deep r) else 1
/-- what follows a kind -/
def body (k : UInt8) (n : Int) (s : List UInt8) (m : Nat) (b : List UInt8) : List UInt8 := if k = 1 then cnt (folded n) else if k = 2 then cnt s.length ++ s else if k = 3 then cnt m ++ b else []
def encB : Its → List UInt8
  | .nil => []
  | .cons k n s sub r => k :: (body k n s sub.len (encB sub) ++ encB r)
theorem encE_bad {deep : Nat} {k : UInt8} {n : Int} {s : List UInt8} {sub r : Its} (h : ok1 k n s sub.len = false) : encE deep (.cons k n s sub r) = 1 := by rw [encE, h]; rfl
theorem encE_flat {deep : Nat} {k : UInt8} {n : Int} {s : List UInt8} {sub r : Its} (h : ok1 k n s sub.len = true) (hk : k ≠ 3) : encE deep (.cons k n s sub r) = encE deep r := by rw [encE, h, if_pos rfl, if_neg hk]
theorem encE_deep {deep : Nat} {n : Int} {s : List UInt8} {sub r : Its} (h : ok1 3 n s sub.len = true) (hd : 16 < deep) : encE deep (.cons 3 n s sub r) = 84 := by rw [encE, h, if_pos rfl, if_pos rfl, if_pos hd]
theorem encE_sub {deep : Nat} {n : Int} {s : List UInt8} {sub r : Its} (h : ok1 3 n s sub.len = true) (hd : ¬ 16 < deep) : encE deep (.cons 3 n s sub r) = if encE (deep + 1) sub = 0 then encE deep r else encE (deep + 1) sub := by rw [encE, h, if_pos rfl, if_pos rfl, if_neg hd]
theorem body_len {k : UInt8} {n : Int} {s : List UInt8} {sub : Its} {b : List UInt8} (h1 : -9223372036854775808 ≤ n) (h2 : n ≤ 9223372036854775807) (hs : s.length ≤ 10000000) (hm : sub.weight ≤ 10000000) (hb : b.length ≤ 12 * sub.weight) : (body k n s sub.len b).length + 1 ≤ 12 * (s.length + sub.weight + 1) := by
  have h3 := cnt_len64 _ (folded_lt n h1 h2)
  have h4 := cnt_len64 s.length (by omega)
  have h5 := cnt_len64 sub.len (by have := Its.len_size sub; have := Its.size_weight sub; omega)
  unfold body
  split
  · omega
  · split
    · rw [List.length_append]; omega
    · split
      · rw [List.length_append]; omega
      · simp; omega
theorem encB_len : ∀ t : Its, t.fits → t.weight ≤ 10000000 → (encB t).length ≤ 12 * t.weight
  | .nil, _, _ => Nat.zero_le _
  | .cons k n s sub r, h, hw => by
    simp only [Its.weight] at hw ⊢
    have h1 := encB_len sub h.2.1 (by omega)
    have h2 := encB_len r h.2.2 (by omega)
    have h3 := body_len (k := k) (s := s) h.1.1 h.1.2 (by omega) (by omega) h1
    rw [encB, List.length_cons, List.length_append]
    omega
theorem ok1_kind {k : UInt8} {n : Int} {s : List UInt8} {m : Nat} (h : ok1 k n s m = true) (h1 : k ≠ 1) (h2 : k ≠ 2) : k = 3 := by
  unfold ok1 at h
  rw [if_neg h1, if_neg h2] at h
  split at h
  · assumption
  · cases h
def encodeE (t : Its) : Int := if encE 1 t = 0 then (if 100000 < (encB t).length then 3 else 0) else encE 1 t
def encodeS (t : Its) : List UInt8 := if encE 1 t = 0 then (if 100000 < (encB t).length then [] else encB t) else []
theorem encode_bad {t : Its} (h : encE 1 t ≠ 0) : encodeS t = [] ∧ encodeE t = encE 1 t := by unfold encodeS encodeE; rw [if_neg h, if_neg h]; exact ⟨rfl, rfl⟩
theorem encode_full {t : Its} (h : encE 1 t = 0) (hf : 100000 < (encB t).length) : encodeS t = [] ∧ encodeE t = 3 := by unfold encodeS encodeE; rw [if_pos h, if_pos h, if_pos hf, if_pos hf]; exact ⟨rfl, rfl⟩
theorem encode_ok {t : Its} (h : encE 1 t = 0) (hf : ¬ 100000 < (encB t).length) : encodeS t = encB t ∧ encodeE t = 0 := by unfold encodeS encodeE; rw [if_pos h, if_pos h, if_neg hf, if_neg hf]; exact ⟨rfl, rfl⟩
end Go.Proofs.YtfbdikaaeedeoaaDoor.Ky
