/-
  Pages as plain mathematics: the sum of bytes, step by step; a page, and what is read of it; which changes of a page are told.
-/
import Derived.Lib.Hide
namespace Go.Proofs.YtfbdikaaeedeoaaDoor.Pg

/-- one step of the sum -/
def step (s : Nat) (c : UInt8) : Nat := (s ^^^ c.toNat) * 1099511628211 % 18446744073709551616
def on (s : Nat) (l : List UInt8) : Nat := l.foldl step s
def sum (l : List UInt8) : Nat := on 14695981039346656037 l

theorem step_lt (s : Nat) (c : UInt8) : step s c < 18446744073709551616 := Nat.mod_lt _ (by decide)
theorem on_lt (s : Nat) (l : List UInt8) (h : s < 18446744073709551616) : on s l < 18446744073709551616 := by
  induction l generalizing s with
  | nil => exact h
  | cons c l ih => exact ih _ (step_lt s c)
theorem sum_lt (l : List UInt8) : sum l < 18446744073709551616 := on_lt _ _ (by decide)
theorem on_append (s : Nat) (a b : List UInt8) : on s (a ++ b) = on (on s a) b := List.foldl_append ..
theorem foldl_one {α β : Type} (f : β → α → β) (x : β) (c : α) : [c].foldl f x = f x c := rfl
theorem on_snoc (s : Nat) (a : List UInt8) (c : UInt8) : on s (a ++ [c]) = step (on s a) c := (on_append s a [c]).trans (foldl_one step (on s a) c)
theorem sum_snoc (a : List UInt8) (c : UInt8) : sum (a ++ [c]) = step (sum a) c := on_snoc _ a c

/-- the factor has an inverse -/
theorem mul_inj (x y : Nat) (hx : x < 18446744073709551616) (hy : y < 18446744073709551616) (h : x * 1099511628211 % 18446744073709551616 = y * 1099511628211 % 18446744073709551616) : x = y := by
  have e : ∀ z : Nat, (z * 1099511628211 % 18446744073709551616) * 14886173955864302971 % 18446744073709551616 = z % 18446744073709551616 := fun z => by
    have k : (1099511628211 * 14886173955864302971) % 18446744073709551616 = 1 := by decide
    rw [Nat.mod_mul_mod, Nat.mul_assoc, Nat.mul_mod, k, Nat.mul_one, Nat.mod_mod]
  have h1 := e x
  have h2 := e y
  rw [h, h2] at h1
  rw [Nat.mod_eq_of_lt hx, Nat.mod_eq_of_lt hy] at h1
  exact h1.symm
theorem xor_lt (s : Nat) (c : UInt8) (h : s < 18446744073709551616) : s ^^^ c.toNat < 18446744073709551616 :=
  Nat.xor_lt_two_pow (n := 64) h (Nat.lt_of_lt_of_le c.toNat_lt (by decide))
theorem step_inj (s t : Nat) (c : UInt8) (hs : s < 18446744073709551616) (ht : t < 18446744073709551616) (h : step s c = step t c) : s = t := by
  have := mul_inj _ _ (xor_lt s c hs) (xor_lt t c ht) h
  have e := congrArg (· ^^^ c.toNat) this
  simpa only [Nat.xor_assoc, Nat.xor_self, Nat.xor_zero] using e
theorem step_tell (s : Nat) (c d : UInt8) (hs : s < 18446744073709551616) (h : step s c = step s d) : c = d := by
  have := mul_inj _ _ (xor_lt s c hs) (xor_lt s d hs) h
  have e := congrArg (s ^^^ ·) this
  simp only [← Nat.xor_assoc, Nat.xor_self, Nat.zero_xor] at e
  exact UInt8.toNat_inj.1 e
theorem on_inj (s t : Nat) (l : List UInt8) (hs : s < 18446744073709551616) (ht : t < 18446744073709551616) (h : on s l = on t l) : s = t := by
  induction l generalizing s t with
  | nil => exact h
  | cons c l ih => exact step_inj s t c hs ht (ih _ _ (step_lt _ _) (step_lt _ _) h)
/-- a byte that is another one is told by the sum, whatever follows -/
theorem on_tell (s : Nat) (a : List UInt8) (c d : UInt8) (e : List UInt8) (hs : s < 18446744073709551616) (hne : c ≠ d) : on s (a ++ c :: e) ≠ on s (a ++ d :: e) := fun h => by
  rw [on_append, on_append] at h
  exact hne (step_tell _ c d (on_lt _ _ hs) (on_inj _ _ e (step_lt _ _) (step_lt _ _) h))
theorem sum_tell (a : List UInt8) (c d : UInt8) (e : List UInt8) (hne : c ≠ d) : sum (a ++ c :: e) ≠ sum (a ++ d :: e) := on_tell _ a c d e (by decide) hne
/-- the like at a place of a list -/
theorem sum_set (l : List UInt8) (k : Nat) (hk : k < l.length) (c : UInt8) (hne : c ≠ l[k]) (e : List UInt8) : sum (l.set k c ++ e) ≠ sum (l ++ e) := by
  have h1 : l = l.take k ++ l[k] :: l.drop (k + 1) := by rw [List.getElem_cons_drop, List.take_append_drop]
  have h2 : l.set k c = l.take k ++ c :: l.drop (k + 1) := List.set_eq_take_append_cons_drop.trans (by rw [if_pos hk])
  rw [h2]
  conv => rhs; rw [h1]
  rw [List.append_assoc, List.append_assoc, List.cons_append, List.cons_append]
  exact sum_tell _ _ _ _ hne

/-- a number in n bytes, the highest first -/
def be : Nat → Nat → List UInt8
  | 0, _ => []
  | n + 1, v => be n (v / 256) ++ [UInt8.ofNat (v % 256)]
theorem be_length (n v : Nat) : (be n v).length = n := by
  induction n generalizing v with
  | zero => rfl
  | succ n ih => simp [be, ih]
theorem be_inj (n v u : Nat) (hv : v < 256 ^ n) (hu : u < 256 ^ n) (h : be n v = be n u) : v = u := by
  induction n generalizing v u with
  | zero => simp at hv hu; omega
  | succ n ih =>
    obtain ⟨h1, h2⟩ := List.append_inj h (by rw [be_length, be_length])
    have e := ih _ _ (by rw [Nat.pow_succ] at hv; omega) (by rw [Nat.pow_succ] at hu; omega) h1
    have h3 : UInt8.ofNat (v % 256) = UInt8.ofNat (u % 256) := by injection h2
    have h4 := congrArg UInt8.toNat h3
    rw [UInt8.toNat_ofNat', UInt8.toNat_ofNat'] at h4
    omega

/-- the bytes behind the sum -/
def rest (l : List UInt8) : List UInt8 := be 2 l.length ++ l ++ List.replicate (502 - l.length) 0
/-- the page with the number n and the payload l -/
def made (n : Nat) (l : List UInt8) : List UInt8 := be 8 (sum (be 8 n ++ rest l)) ++ rest l
/-- how many bytes a page says that its payload has -/
def sizeOf (p : List UInt8) : Nat := (p.getD 8 0).toNat * 256 + (p.getD 9 0).toNat
def payload (p : List UInt8) : List UInt8 := (p.drop 10).take (sizeOf p)
/-- is p the page n of its own payload? -/
def sound (n : Nat) (p : List UInt8) : Bool := decide (sizeOf p ≤ 502) && decide (p = made n (payload p))

theorem rest_length (l : List UInt8) (h : l.length ≤ 502) : (rest l).length = 504 := by simp [rest, be_length]; omega
theorem made_length (n : Nat) (l : List UInt8) (h : l.length ≤ 502) : (made n l).length = 512 := by simp [made, be_length, rest_length l h]
theorem be2 (v : Nat) : be 2 v = [UInt8.ofNat (v / 256 % 256), UInt8.ofNat (v % 256)] := by simp [be]
theorem made_getD (n : Nat) (l : List UInt8) (k : Nat) : (made n l).getD (8 + k) 0 = (rest l).getD k 0 := by
  rw [made, List.getD_eq_getElem?_getD, List.getElem?_append_right (by rw [be_length]; omega), be_length, List.getD_eq_getElem?_getD]
  congr 2
  omega
theorem size_made (n : Nat) (l : List UInt8) (h : l.length ≤ 502) : sizeOf (made n l) = l.length := by
  unfold sizeOf
  have h0 := made_getD n l 0
  have h1 := made_getD n l 1
  rw [show 8 + 0 = 8 from rfl] at h0
  rw [show 8 + 1 = 9 from rfl] at h1
  rw [h0, h1]
  simp only [rest, be2, List.cons_append, List.nil_append, List.getD_cons_zero, List.getD_cons_succ]
  rw [UInt8.toNat_ofNat', UInt8.toNat_ofNat']
  omega
theorem payload_made (n : Nat) (l : List UInt8) (h : l.length ≤ 502) : payload (made n l) = l := by
  unfold payload
  rw [size_made n l h, made, rest, ← List.append_assoc, ← List.append_assoc, List.append_assoc]
  rw [List.drop_append_of_le_length (by simp [be_length])]
  rw [List.drop_eq_nil_of_le (by simp [be_length]), List.nil_append, List.take_append_of_le_length (by omega), List.take_length]
theorem sound_made (n : Nat) (l : List UInt8) (h : l.length ≤ 502) : sound n (made n l) = true := by
  unfold sound
  rw [size_made n l h, payload_made n l h]
  simp [h]
theorem payload_length (p : List UInt8) (hp : p.length = 512) (h : sizeOf p ≤ 502) : (payload p).length = sizeOf p := by
  unfold payload
  rw [List.length_take, List.length_drop]
  omega
/-- what is sound is the page of its payload -/
theorem sound_iff {n : Nat} {p : List UInt8} : sound n p = true ↔ sizeOf p ≤ 502 ∧ p = made n (payload p) := by
  unfold sound; simp
/-- the sum of a page is of its number and what follows -/
theorem sound_sum {n : Nat} {p : List UInt8} (h : sound n p = true) : p.take 8 = be 8 (sum (be 8 n ++ p.drop 8)) := by
  obtain ⟨h1, h2⟩ := sound_iff.1 h
  have e1 : (made n (payload p)).take 8 = be 8 (sum (be 8 n ++ rest (payload p))) := by rw [made, List.take_append_of_le_length (by rw [be_length]; omega), List.take_of_length_le (by rw [be_length]; omega)]
  have e2 : (made n (payload p)).drop 8 = rest (payload p) := by rw [made, List.drop_append_of_le_length (by rw [be_length]; omega), List.drop_eq_nil_of_le (by rw [be_length]; omega), List.nil_append]
  rw [← h2] at e1 e2
  rw [e1, e2]
theorem p64 : (18446744073709551616 : Nat) = 256 ^ 8 := by decide
/-- P3.3: one byte of a page -/
theorem byte_told (n : Nat) (p : List UInt8) (hp : p.length = 512) (h : sound n p = true) (k : Nat) (hk : k < p.length) (c : UInt8) (hne : c ≠ p[k]) : sound n (p.set k c) = false := by
  rw [Bool.eq_false_iff]
  intro h'
  have s1 := sound_sum h
  have s2 := sound_sum h'
  by_cases hk8 : k < 8
  · have e : (p.set k c).drop 8 = p.drop 8 := List.drop_set_of_lt hk8
    rw [e, ← s1] at s2
    have := congrArg (fun l => l[k]?) s2
    simp only [List.getElem?_take, if_pos hk8, List.getElem?_set_self hk, List.getElem?_eq_getElem hk] at this
    exact hne (by injection this)
  · have e : (p.set k c).take 8 = p.take 8 := List.take_set_of_le (by omega)
    rw [e, s1] at s2
    have := be_inj 8 _ _ (by rw [← p64]; exact sum_lt _) (by rw [← p64]; exact sum_lt _) s2
    have hd : (p.set k c).drop 8 = (p.drop 8).set (k - 8) c := by rw [List.drop_set, if_neg hk8]
    rw [hd] at this
    have hk' : k - 8 < (p.drop 8).length := by rw [List.length_drop]; omega
    have hset : be 8 n ++ (p.drop 8).set (k - 8) c = (be 8 n ++ p.drop 8).set k c := by
      rw [List.set_append_right _ _ (by rw [be_length]; omega), be_length]
    rw [hset] at this
    have hkk : k < (be 8 n ++ p.drop 8).length := by simp [be_length]; omega
    have hcc : (be 8 n ++ p.drop 8)[k] = p[k] := by
      rw [List.getElem_append_right (by rw [be_length]; omega), List.getElem_drop]
      simp only [be_length]
      congr 1
      omega
    have := sum_set (be 8 n ++ p.drop 8) k hkk c (by rw [hcc]; exact hne) []
    simp only [List.append_nil] at this
    exact this (by assumption : sum _ = sum _).symm
/-- P3.3: one byte of the number -/
theorem number_told (n m : Nat) (p : List UInt8) (h : sound n p = true) (x y : List UInt8) (c d : UInt8) (hn : be 8 n = x ++ c :: y) (hm : be 8 m = x ++ d :: y) (hne : c ≠ d) : sound m p = false := by
  rw [Bool.eq_false_iff]
  intro h'
  have s1 := sound_sum h
  have s2 := sound_sum h'
  rw [s1] at s2
  have := be_inj 8 _ _ (by rw [← p64]; exact sum_lt _) (by rw [← p64]; exact sum_lt _) s2
  rw [hn, hm, List.append_assoc, List.append_assoc, List.cons_append, List.cons_append] at this
  exact sum_tell x c d _ hne this
end Go.Proofs.YtfbdikaaeedeoaaDoor.Pg
