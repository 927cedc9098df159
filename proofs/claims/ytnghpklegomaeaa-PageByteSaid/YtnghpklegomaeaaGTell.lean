/-
  Numbers of which one byte is another one, plain mathematics.
-/
import Derived.Test.YtnghpklegomaeaaGMath
namespace Go.Proofs.Ytnghpklegomaeaa.Pg

theorem xor_ne {a b : Nat} (h : b ≠ 0) : a ^^^ b ≠ a := fun e => by
  have e2 := congrArg (a ^^^ ·) e
  simp only [← Nat.xor_assoc, Nat.xor_self, Nat.zero_xor] at e2
  exact h e2
theorem ofNat_ne {a b : Nat} (ha : a < 256) (hb : b < 256) (h : a ≠ b) : UInt8.ofNat a ≠ UInt8.ofNat b := fun e => by
  have e := congrArg UInt8.toNat e
  rw [UInt8.toNat_ofNat', UInt8.toNat_ofNat'] at e
  omega
theorem xor_low (n b : Nat) (hb : b < 256) : (n ^^^ b) / 256 = n / 256 ∧ (n ^^^ b) % 256 = n % 256 ^^^ b := by
  have h1 := Nat.xor_div_two_pow (a := n) (b := b) (n := 8)
  have h2 := Nat.xor_mod_two_pow (a := n) (b := b) (n := 8)
  rw [show 2 ^ 8 = 256 from rfl] at h1 h2
  rw [Nat.div_eq_of_lt hb, Nat.xor_zero] at h1
  rw [Nat.mod_eq_of_lt hb] at h2
  exact ⟨h1, h2⟩
theorem xor_high (n b : Nat) : (n ^^^ b * 256) / 256 = n / 256 ^^^ b ∧ (n ^^^ b * 256) % 256 = n % 256 := by
  have h1 := Nat.xor_div_two_pow (a := n) (b := b * 256) (n := 8)
  have h2 := Nat.xor_mod_two_pow (a := n) (b := b * 256) (n := 8)
  rw [show 2 ^ 8 = 256 from rfl] at h1 h2
  rw [Nat.mul_div_cancel _ (by decide)] at h1
  rw [Nat.mul_mod_left, Nat.xor_zero] at h2
  exact ⟨h1, h2⟩
theorem low_told (n b : Nat) (hb : b < 256) (h0 : b ≠ 0) (p : List UInt8) (h : sound n p = true) : sound (n ^^^ b) p = false := by
  obtain ⟨e1, e2⟩ := xor_low n b hb
  have hlt : n % 256 ^^^ b < 256 := Nat.xor_lt_two_pow (n := 8) (Nat.mod_lt _ (by decide)) hb
  refine number_told n (n ^^^ b) p h (be 7 (n / 256)) [] (UInt8.ofNat (n % 256)) (UInt8.ofNat (n % 256 ^^^ b)) rfl ?_ (ofNat_ne (Nat.mod_lt _ (by decide)) hlt (xor_ne h0).symm)
  rw [be, e1, e2]
theorem high_told (n b : Nat) (hb : b < 256) (h0 : b ≠ 0) (p : List UInt8) (h : sound n p = true) : sound (n ^^^ b * 256) p = false := by
  obtain ⟨e1, e2⟩ := xor_high n b
  obtain ⟨e3, e4⟩ := xor_low (n / 256) b hb
  have hlt : n / 256 % 256 ^^^ b < 256 := Nat.xor_lt_two_pow (n := 8) (Nat.mod_lt _ (by decide)) hb
  refine number_told n (n ^^^ b * 256) p h (be 6 (n / 256 / 256)) [UInt8.ofNat (n % 256)] (UInt8.ofNat (n / 256 % 256)) (UInt8.ofNat (n / 256 % 256 ^^^ b)) ?_ ?_ (ofNat_ne (Nat.mod_lt _ (by decide)) hlt (xor_ne h0).symm)
  · rw [be, be, List.append_assoc]; rfl
  · rw [be, e1, e2, be, e3, e4, List.append_assoc]; rfl
theorem xor_small (n b : Nat) (hn : n ≤ 16383) (hb : b < 256) : n ^^^ b ≤ 16383 := by
  have := Nat.xor_lt_two_pow (n := 14) (x := n) (y := b) (by omega) (by omega)
  omega
theorem xor_big (n b : Nat) (hn : n ≤ 16383) (hb : b < 256) : n ^^^ b * 256 < 65536 :=
  Nat.xor_lt_two_pow (n := 16) (by omega) (by omega)
end Go.Proofs.Ytnghpklegomaeaa.Pg
