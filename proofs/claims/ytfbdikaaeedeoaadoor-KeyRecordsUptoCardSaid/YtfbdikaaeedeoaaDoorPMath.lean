/-
  The pager as plain mathematics: numbers as eight bytes, metas.
-/
import Derived.Test.YtfbdikaaeedeoaaDoorGMath
namespace Go.Proofs.YtfbdikaaeedeoaaDoor.Pr
open Pg

/-- what 64 bits say of a signed number -/
def sint (x : Nat) : Int := if x < 9223372036854775808 then (x : Int) else (x : Int) - 18446744073709551616
/-- what bytes say, the highest first -/
def toN (l : List UInt8) : Nat := l.foldl (fun v c => v * 256 + c.toNat) 0
theorem toN_nil : toN [] = 0 := rfl
theorem toN_snoc (l : List UInt8) (c : UInt8) : toN (l ++ [c]) = toN l * 256 + c.toNat := by simp [toN]
theorem be_lo (k v : Nat) : Pg.be (k + 1) v = UInt8.ofNat (v / 256 ^ k % 256) :: Pg.be k v := by
  induction k generalizing v with
  | zero => simp [Pg.be]
  | succ k ih => rw [Pg.be, ih, Pg.be, List.cons_append, Nat.div_div_eq_div_mul, Nat.pow_succ, Nat.mul_comm]
theorem toN_be (k v : Nat) : toN (be k v) = v % 256 ^ k := by
  induction k generalizing v with
  | zero => simp [be, toN, Nat.mod_one]
  | succ k ih =>
    rw [be, toN_snoc, ih, UInt8.toNat_ofNat', Nat.mod_eq_of_lt (a := v % 256) (Nat.mod_lt _ (by decide)), Nat.pow_succ, Nat.mul_comm (256 ^ k) 256, Nat.mod_mul, Nat.mul_comm, Nat.add_comm]
theorem toN_lt (l : List UInt8) : toN l < 256 ^ l.length := by
  suffices ∀ r : List UInt8, toN r.reverse < 256 ^ r.length by simpa using this l.reverse
  intro r
  induction r with
  | nil => simp [toN]
  | cons c r ih =>
    rw [List.reverse_cons, toN_snoc, List.length_cons, Nat.pow_succ]
    have := c.toNat_lt
    omega
theorem be_drop8 (k v r : Nat) (h : r ≤ k) : (be k v).drop r = be (k - r) v := by
  induction r generalizing k with
  | zero => simp
  | succ r ih =>
    obtain ⟨q, rfl⟩ : ∃ q, k = q + 1 := ⟨k - 1, by omega⟩
    rw [be_lo, List.drop_succ_cons, ih q (by omega), Nat.add_sub_add_right]
theorem be_next (k v r : Nat) (h : r < k) : (be k v).take (r + 1) = (be k v).take r ++ [UInt8.ofNat (v / 256 ^ (k - 1 - r) % 256)] := by
  have hl : r < (be k v).length := by rw [be_length]; exact h
  rw [List.take_succ_eq_append_getElem hl]
  congr 2
  have h1 := be_drop8 k v r (by omega)
  obtain ⟨q, hq⟩ : ∃ q, k - r = q + 1 := ⟨k - r - 1, by omega⟩
  rw [hq, be_lo, List.drop_eq_getElem_cons hl] at h1
  injection h1 with h1 _
  rw [h1, show k - 1 - r = q by omega]

/-- a meta's payload -/
def mark : List UInt8 := [116, 111, 108, 108, 103, 97, 116, 101]
def metaBytes (s r : Nat) : List UInt8 := mark ++ be 8 s ++ be 8 r ++ be 8 s
theorem metaBytes_length (s r : Nat) : (metaBytes s r).length = 32 := by simp [metaBytes, mark, be_length]
def num8 (l : List UInt8) (o : Nat) : Nat := toN ((l.drop o).take 8)
theorem num8_lt (l : List UInt8) (o : Nat) : num8 l o < 18446744073709551616 := by
  have h := toN_lt ((l.drop o).take 8)
  have h2 : ((l.drop o).take 8).length ≤ 8 := by rw [List.length_take]; omega
  exact Nat.lt_of_lt_of_le h (Nat.le_trans (Nat.pow_le_pow_right (by decide) h2) (by decide))
/-- is it the payload of a sound meta, of N pages? -/
def goodMeta (N : Nat) (b : List UInt8) : Bool :=
  decide (b = metaBytes (num8 b 8) (num8 b 16)) && (decide (num8 b 8 ≤ 4611686018427387904) && (decide (num8 b 16 = 0) || (decide (2 ≤ num8 b 16) && decide (num8 b 16 < N))))
/-- what the page n says as a meta -/
def metaOf (n N : Nat) (p : List UInt8) : Option (Nat × Nat) :=
  if sound n p && goodMeta N (payload p) then some (num8 (payload p) 8, num8 (payload p) 16) else none
theorem num8_meta (s r : Nat) (hs : s < 18446744073709551616) (hr : r < 18446744073709551616) : num8 (metaBytes s r) 8 = s ∧ num8 (metaBytes s r) 16 = r := by
  have e1 : ((metaBytes s r).drop 8).take 8 = be 8 s := by
    unfold metaBytes mark
    simp [be_length]
  have e2 : ((metaBytes s r).drop 16).take 8 = be 8 r := by
    unfold metaBytes mark
    simp [be_length]
  constructor
  · rw [num8, e1, toN_be]; exact Nat.mod_eq_of_lt (by rw [← p64]; exact hs)
  · rw [num8, e2, toN_be]; exact Nat.mod_eq_of_lt (by rw [← p64]; exact hr)
/-- a meta that was written is found -/
theorem metaOf_made (n N s r : Nat) (hs : s ≤ 4611686018427387904) (hr : r = 0 ∨ 2 ≤ r ∧ r < N) (hN : N ≤ 16384) : metaOf n N (made n (metaBytes s r)) = some (s, r) := by
  have hl : (metaBytes s r).length ≤ 502 := by rw [metaBytes_length]; decide
  obtain ⟨e1, e2⟩ := num8_meta s r (by omega) (by omega)
  unfold metaOf goodMeta
  rw [sound_made n _ hl, payload_made n _ hl, e1, e2]
  rcases hr with hr | hr <;> simp [hr, hs]
end Go.Proofs.YtfbdikaaeedeoaaDoor.Pr
