/-
  The document reads a count.
-/
import Derived.Test.YtfbdikaaeedeoaaDoorKRefA
import Derived.Test.YtfbdikaaeedeoaaDoorKDec
namespace Go.Proofs.YtfbdikaaeedeoaaDoor
open Go.RowKit Go.Maps
set_option maxRecDepth 100000

/-- what is read at a place: the count, and where it ends -/
def Ky.numV (s : List UInt8) (q : Nat) : Nat := match Ky.readC 0 0 (s.drop q) with
  | none => 0
  | some (v, _) => v
def Ky.numE (s : List UInt8) (q : Nat) : Int := match Ky.readC 0 0 (s.drop q) with
  | none => -1
  | some (_, r) => (s.length : Int) - (r.length : Int)
theorem num_none {s : List UInt8} {q : Nat} (h : Ky.readC 0 0 (s.drop q) = none) : Ky.numV s q = 0 ∧ Ky.numE s q = -1 := by unfold Ky.numV Ky.numE; rw [h]; exact ⟨rfl, rfl⟩
theorem num_some {s r : List UInt8} {q v : Nat} (h : Ky.readC 0 0 (s.drop q) = some (v, r)) : Ky.numV s q = v ∧ Ky.numE s q = (s.length : Int) - (r.length : Int) := by unfold Ky.numV Ky.numE; rw [h]; exact ⟨rfl, rfl⟩
theorem shl_shr (y k : Nat) : IntKind.u64.wrap ((y : Int) * 2 ^ k) / 2 ^ k = (((y * 2 ^ k % 18446744073709551616) / 2 ^ k : Nat) : Int) := by
  rw [IntKind.wrap_u64, show (y : Int) * 2 ^ k = ((y * 2 ^ k : Nat) : Int) by norm_cast]
  generalize y * 2 ^ k = m
  rw [show ((m : Int) % 18446744073709551616) = ((m % 18446744073709551616 : Nat) : Int) by omega]
  generalize m % 18446744073709551616 = a
  norm_cast
theorem shl_lost (y k : Nat) (h : 18446744073709551616 ≤ y * 2 ^ k) : (IntKind.u64.wrap ((y : Int) * 2 ^ k) / 2 ^ k != (y : Int)) = true := by
  rw [shl_shr, bne_iff_ne]
  intro e
  have e : y * 2 ^ k % 18446744073709551616 / 2 ^ k = y := by exact_mod_cast e
  have h1 := Nat.div_mul_le_self (y * 2 ^ k % 18446744073709551616) (2 ^ k)
  rw [e] at h1
  have h2 := Nat.mod_lt (y * 2 ^ k) (show 18446744073709551616 > 0 by decide)
  omega
theorem shl_back (y k : Nat) (h : y * 2 ^ k < 18446744073709551616) : (IntKind.u64.wrap ((y : Int) * 2 ^ k) / 2 ^ k != (y : Int)) = false := by
  rw [shl_shr, Nat.mod_eq_of_lt h, Nat.mul_div_cancel _ (Nat.pow_pos (by decide))]
  simp
set_option maxHeartbeats 3200000 in
theorem rnum_any (w : World) (s : List UInt8) (p : Nat) (hs : s.length ≤ 100000000) (hp : p ≤ s.length) :
    Calls Tryd.prog 63 #[bstr s, .int .i64 (p : Int)] w fun e w' => e = .returned (.tuple #[.int .u64 (Ky.numV s p : Int), .int .i64 (Ky.numE s p)]) ∧ w = w' := by
  have HS := Lib.hid hs
  have HP := Lib.hid hp
  have hsb : (s.length : Int) ≤ 100000000 := by omega
  have hpb : (p : Int) ≤ 100000000 := by omega
  clear hs hp
  unfold bstr
  go_enter Tryd.func63, Tryd.ntmps63
  go_wp2_with fail
  go_loop [6, 7, 8] (fun n sh i => ∃ (k x q : Nat), k ≤ 71 ∧ n = .int .u64 (x : Int) ∧ sh = .int .i64 (k : Int) ∧ i = .int .i64 (q : Int) ∧ x < 18446744073709551616 ∧ Hid (x < 2 ^ k ∧ Ky.readC 0 0 (s.drop p) = Ky.readC k x (s.drop q) ∧ p ≤ q ∧ q ≤ s.length ∧ k % 7 = 0 ∧ (k = 0 ↔ q = p))) (fun _ _ i => s.length - (intOf i).toNat)
  case atStart => exact ⟨0, 0, p, by omega, rfl, rfl, rfl, by omega, Lib.hid ⟨by decide, rfl, Nat.le_refl _, HP.out, rfl, by simp⟩⟩
  case round =>
    obtain ⟨k, x, q, hk, rfl, rfl, rfl, hx64, HR⟩ := hrel
    have hk' : (k : Int) ≤ 71 := by omega
    have hqb : (q : Int) ≤ 100000000 := by have := HR.out.2.2.2.1; omega
    by_cases hq : q < s.length
    · have hq' : (q : Int) < (s.length : Int) := by omega
      obtain ⟨b, hb⟩ : ∃ b, s[q] = b := ⟨_, rfl⟩
      have hix := byte_at s q hq b hb
      have hdr : s.drop q = b :: s.drop (q + 1) := by rw [List.drop_eq_getElem_cons hq, hb]
      have hst : Ky.readC k x (b :: s.drop (q + 1)) = if 64 < k + Lib.bitLen (b.toNat % 128) then none else if b.toNat < 128 then (if b ≠ 0 ∨ k = 0 then some (x + (b.toNat % 128) * 2 ^ k, s.drop (q + 1)) else none) else Ky.readC (k + 7) (x + (b.toNat % 128) * 2 ^ k) (s.drop (q + 1)) := rfl
      have hqd : decide (s.length ≤ q) = false := decide_eq_false (by omega)
      have hy := bitLen_lt ⟨b.toNat % 128, Nat.mod_lt _ (by decide)⟩
      simp only at hy
      have hb256 : (b.toNat : Int) < 256 := by have := b.toNat_lt; omega
      have hy128 : b.toNat % 128 < 128 := Nat.mod_lt _ (by decide)
      have hbm : (b.toNat : Int) % 128 = ((b.toNat % 128 : Nat) : Int) := by omega
      generalize b.toNat % 128 = y at *
      have hrm := @Ky.room y k hy128
      have hz0 : y = 0 → Lib.bitLen y = 0 := fun h => by rw [h]; rfl
      generalize Lib.bitLen y = z at *
      have HRM := Lib.hid hrm
      have HZ0 := Lib.hid hz0
      clear hrm hz0
      have HDR := Lib.hid hdr
      have HST := Lib.hid hst
      have HY := Lib.hid hy
      have HQ := Lib.hid hq
      clear hdr hst hy hq hb
      by_cases h64 : 64 ≤ k
      · have h64' : ¬ ((k : Int) < 64) := by omega
        have HN : Hid (Ky.readC 0 0 (s.drop p) = none) := Lib.hid (by rw [HR.out.2.1, HDR.out, HST.out, if_pos (by have := HR.out.2.2.2.2.1; omega)])
        clear h64
        go_wp2_with fail
        go_ret2
        exact ⟨by rw [(num_none HN.out).1, (num_none HN.out).2]; rfl, rfl⟩
      · have h64' : (k : Int) < 64 := by omega
        clear h64
        by_cases hkz : 64 < k + z
        · have hlost := shl_lost y k (by
            apply Nat.le_of_not_lt
            intro hlt
            have := HRM.out hlt (.inl fun e => by have := HZ0.out e; omega)
            omega)
          have HN : Hid (Ky.readC 0 0 (s.drop p) = none) := Lib.hid (by rw [HR.out.2.1, HDR.out, HST.out, if_pos hkz])
          clear hkz
          go_wp2_with fail
          go_ret2
          exact ⟨by rw [(num_none HN.out).1, (num_none HN.out).2]; rfl, rfl⟩
        · have hym : y * 2 ^ k < 18446744073709551616 := by
            have h1 : y * 2 ^ k < 2 ^ z * 2 ^ k := Nat.mul_lt_mul_of_pos_right HY.out.1 (Nat.pow_pos (by decide))
            have h2 : (2 : Nat) ^ z * 2 ^ k = 2 ^ (z + k) := (Nat.pow_add 2 z k).symm
            have h3 : (2 : Nat) ^ (z + k) ≤ 2 ^ 64 := Nat.pow_le_pow_right (by decide) (by omega)
            have h4 : (2 : Nat) ^ 64 = 18446744073709551616 := by decide
            omega
          have hback := shl_back y k hym
          have hor : bits .or .u64 (x : Int) (IntKind.u64.wrap ((y : Int) * 2 ^ k)) = ((x + y * 2 ^ k : Nat) : Int) := by
            rw [← or_high x y k HR.out.1 hym hx64, IntKind.wrap_u64, show (y : Int) * 2 ^ k = ((y * 2 ^ k : Nat) : Int) by norm_cast, Int.emod_eq_of_lt (by omega) (by omega)]
          have hv : x + y * 2 ^ k < 2 ^ (k + 7) ∧ x + y * 2 ^ k < 18446744073709551616 := by
            have h1 : (y + 1) * 2 ^ k ≤ 2 ^ z * 2 ^ k := Nat.mul_le_mul_right _ HY.out.1
            have h2 : (2 : Nat) ^ z * 2 ^ k = 2 ^ (z + k) := (Nat.pow_add 2 z k).symm
            have h3 : (2 : Nat) ^ (z + k) ≤ 2 ^ 64 := Nat.pow_le_pow_right (by decide) (by omega)
            have h4 : (2 : Nat) ^ 64 = 18446744073709551616 := by decide
            have h5 : (2 : Nat) ^ (z + k) ≤ 2 ^ (k + 7) := Nat.pow_le_pow_right (by decide) (by have := HY.out.2; omega)
            have h6 := HR.out.1
            rw [Nat.add_mul, Nat.one_mul] at h1
            omega
          have HST2 : Hid (Ky.readC k x (s.drop q) = if b.toNat < 128 then (if b ≠ 0 ∨ k = 0 then some (x + y * 2 ^ k, s.drop (q + 1)) else none) else Ky.readC (k + 7) (x + y * 2 ^ k) (s.drop (q + 1))) := Lib.hid (by rw [HDR.out, HST.out, if_neg hkz])
          clear hkz HST hym
          generalize x + y * 2 ^ k = v at *
          have HV := Lib.hid hv
          clear hv
          by_cases hb128 : b.toNat < 128
          · have hb128' : (b.toNat : Int) < 128 := by omega
            have HB := Lib.hid hb128
            clear hb128
            by_cases hb0 : b = 0
            · subst hb0
              obtain rfl : y = 0 := by
                have h := hbm
                rw [show (UInt8.toNat 0 : Int) % 128 = 0 from rfl] at h
                omega
              have hor0 : bits .or .u64 (x : Int) 0 = (v : Int) := by
                have h := hor
                rwa [show IntKind.u64.wrap (((0 : Nat) : Int) * 2 ^ k) = 0 by rw [IntKind.wrap_u64]; simp] at h
              clear hor
              by_cases hqp : q = p
              · have HN : Hid (Ky.readC 0 0 (s.drop p) = some (v, s.drop (q + 1))) := Lib.hid (by rw [HR.out.2.1, HST2.out, if_pos HB.out, if_pos (.inr (HR.out.2.2.2.2.2.2 hqp))])
                have hqp' : ¬ ((p : Int) < (q : Int)) := by omega
                clear hqp
                go_wp2_with fail
                go_ret2
                exact ⟨by rw [(num_some HN.out).1, (num_some HN.out).2, List.length_drop, show (s.length : Int) - ((s.length - (q + 1) : Nat) : Int) = (q : Int) + 1 by have := HQ.out; omega]; rfl, rfl⟩
              · have HN : Hid (Ky.readC 0 0 (s.drop p) = none) := Lib.hid (by rw [HR.out.2.1, HST2.out, if_pos HB.out, if_neg (by intro h; rcases h with h | h; exact h rfl; exact hqp (HR.out.2.2.2.2.2.1 h))])
                have hqp' : (p : Int) < (q : Int) := by have := HR.out.2.2.1; omega
                clear hqp
                go_wp2_with fail
                go_ret2
                exact ⟨by rw [(num_none HN.out).1, (num_none HN.out).2]; rfl, rfl⟩
            · have HN : Hid (Ky.readC 0 0 (s.drop p) = some (v, s.drop (q + 1))) := Lib.hid (by rw [HR.out.2.1, HST2.out, if_pos HB.out, if_pos (.inl hb0)])
              have hb0' : ((b.toNat : Int) == 0) = false := (u8_eq' b 0).trans (decide_eq_false hb0)
              clear hb0
              go_wp2_with fail
              go_ret2
              exact ⟨by rw [(num_some HN.out).1, (num_some HN.out).2, List.length_drop, show (s.length : Int) - ((s.length - (q + 1) : Nat) : Int) = (q : Int) + 1 by have := HQ.out; omega]; rfl, rfl⟩
          · have hb128' : ¬ ((b.toNat : Int) < 128) := by omega
            have HB := Lib.hid hb128
            clear hb128
            go_wp2_with fail
            go_round
            case rel => exact ⟨k + 7, v, q + 1, by omega, rfl, by go_num, by go_num, HV.out.2, Lib.hid ⟨HV.out.1, by rw [HR.out.2.1, HST2.out, if_neg HB.out], by have := HR.out.2.2.1; omega, HQ.out, by have := HR.out.2.2.2.2.1; omega, by have := HR.out.2.2.1; omega⟩⟩
            case measure => (simp [intOf]) <;> omega
    · obtain rfl : q = s.length := by have := HR.out.2.2.2.1; omega
      have HN : Hid (Ky.readC 0 0 (s.drop p) = none) := Lib.hid (by rw [HR.out.2.1, List.drop_length]; rfl)
      clear hq
      go_wp2_with fail
      go_ret2
      exact ⟨by rw [(num_none HN.out).1, (num_none HN.out).2]; rfl, rfl⟩
end Go.Proofs.YtfbdikaaeedeoaaDoor
