/-
  A count is read.
-/
import Derived.Test.YtfbdikaaeedeoaaDoorKSame
import Derived.Test.YtfbdikaaeedeoaaDoorKPartR
import Derived.Test.YtfbdikaaeedeoaaDoorKRefA
namespace Go.Proofs.YtfbdikaaeedeoaaDoor
open Go.RowKit Go.Maps
set_option maxRecDepth 100000

def Ky.readC (k x : Nat) : List UInt8 → Option (Nat × List UInt8)
  | [] => none
  | b :: r => if 64 < k + Lib.bitLen (b.toNat % 128) then none
    else if b.toNat < 128 then (if b ≠ 0 ∨ k = 0 then some (x + (b.toNat % 128) * 2 ^ k, r) else none)
    else Ky.readC (k + 7) (x + (b.toNat % 128) * 2 ^ k) r
def CountPost (w : World) (R : Nat) (s : List UInt8) (e : Ending) (w' : World) : Prop :=
  (match Ky.readC 0 0 s with
    | none => (∃ n : Int, e = .returned (.tuple #[.int .u64 n, .bool false])) ∧ ∃ s', RAt w' R s'
    | some (x, r) => e = .returned (.tuple #[.int .u64 (x : Int), .bool true]) ∧ RAt w' R r) ∧ Fr (oneB R) w w' ∧ w'.heap.size = w.heap.size
theorem count_none {w w' : World} {R : Nat} {s s' : List UInt8} (n : Int) (h : Ky.readC 0 0 s = none) (hr : RAt w' R s') (f : Fr (oneB R) w w' ∧ w'.heap.size = w.heap.size) : CountPost w R s (.returned (.tuple #[.int .u64 n, .bool false])) w' := by
  unfold CountPost
  rw [h]
  exact ⟨⟨⟨n, rfl⟩, s', hr⟩, f⟩
theorem count_some {w w' : World} {R x : Nat} {s r : List UInt8} (h : Ky.readC 0 0 s = some (x, r)) (hr : RAt w' R r) (f : Fr (oneB R) w w' ∧ w'.heap.size = w.heap.size) : CountPost w R s (.returned (.tuple #[.int .u64 (x : Int), .bool true])) w' := by
  unfold CountPost
  rw [h]
  exact ⟨⟨rfl, hr⟩, f⟩
theorem seven_of : ∀ b : Fin 256, bits .andNot .u64 ((b.val : Nat) : Int) 128 = ((b.val % 128 : Nat) : Int) := by decide +kernel
theorem bitLen_lt : ∀ y : Fin 128, y.val < 2 ^ Lib.bitLen y.val ∧ Lib.bitLen y.val ≤ 7 := by decide +kernel
theorem or_high (x y k : Nat) (hx : x < 2 ^ k) (h : y * 2 ^ k < 18446744073709551616) (hx2 : x < 18446744073709551616) : bits .or .u64 (x : Int) ((y * 2 ^ k : Nat) : Int) = ((x + y * 2 ^ k : Nat) : Int) := by
  rw [u64_or_nat _ _ hx2 h]
  congr 1
  have := Nat.two_pow_add_eq_or_of_lt (i := k) (b := x) hx y
  rw [Nat.or_comm, Nat.mul_comm y]
  omega
theorem clone_any (w : World) (s : List UInt8) (hs : s.length ≤ 281474976710656) :
    Calls Tryd.prog 62 #[bstr s] w fun e w' => e = .returned (bstr s) ∧ Below w.heap.size w w' := by
  have H := Lib.hid (Tryd.stringslite_Clone ⟨s.toArray⟩ w (by simpa [ByteArray.size] using hs))
  unfold bstr
  clear hs
  go_enter Tryd.func62, Tryd.ntmps62
  go_wp2_with fail
  refine H.out.mono ?_
  rintro e w2 ⟨rfl, hb2⟩
  have HB2 := Lib.hid hb2
  clear hb2
  go_wp2_with fail
  go_ret
  exact ⟨rfl, HB2.out⟩
set_option maxHeartbeats 3200000 in
theorem rcount_any (w : World) (R : Nat) (s : List UInt8) (h : RAt w R s) (hs : s.length ≤ 2000000) :
    Calls Tryd.prog 60 #[.pointer (some ⟨R, 0, none⟩)] w (CountPost w R s) := by
  have HR0 := Lib.hid h
  have HS := Lib.hid hs
  clear h hs
  go_enter Tryd.func60, Tryd.ntmps60
  go_wp2_with fail
  go_loopw [4, 5] (fun n sh wr => ∃ (k x : Nat) (l : List UInt8), k ≤ 71 ∧ n = .int .u64 (x : Int) ∧ sh = .int .i64 (k : Int) ∧ x < 18446744073709551616 ∧ Hid (x < 2 ^ k ∧ Ky.readC 0 0 s = Ky.readC k x l ∧ l.length ≤ s.length ∧ RAt wr R l ∧ Fr (oneB R) w wr ∧ wr.heap.size = w.heap.size)) (fun _ sh _ => 100 - (intOf sh).toNat)
  case atStart => exact ⟨0, 0, s, by omega, rfl, rfl, by omega, Lib.hid ⟨by decide, rfl, Nat.le_refl _, HR0.out, Fr.refl _ _, rfl⟩⟩
  case round =>
    rename World => wr
    obtain ⟨k, x, l, hk, rfl, rfl, hx64, HR⟩ := hrel
    have hk' : (k : Int) ≤ 71 := by omega
    cases l with
    | nil =>
      have HT := Lib.hid (take_no wr R [] HR.out.2.2.2.1 1 (by decide) (by decide) (by decide))
      rw [show ((1 : Nat) : Int) = 1 from rfl] at HT
      unfold bstr at HT
      go_wp2_with fail
      refine HT.out.mono ?_
      rintro e w' ⟨rfl, rfl⟩
      go_wp2_with fail
      go_ret2
      exact count_none 0 (by rw [HR.out.2.1]; rfl) HR.out.2.2.2.1 HR.out.2.2.2.2
    | cons b r =>
      have HT := Lib.hid (take_yes wr R (b :: r) HR.out.2.2.2.1 1 (by simp) (by have := HR.out.2.2.1; have := HS.out; omega))
      rw [show ((1 : Nat) : Int) = 1 from rfl, show (b :: r).take 1 = [b] from rfl, show (b :: r).drop 1 = r from rfl] at HT
      unfold bstr at HT
      have hsv := seven_of ⟨b.toNat, b.toNat_lt⟩
      have hy := bitLen_lt ⟨b.toNat % 128, Nat.mod_lt _ (by decide)⟩
      simp only at hsv hy
      have hix := byte_at [b] 0 (by simp) b rfl
      have hb256 : (b.toNat : Int) < 256 := by have := b.toNat_lt; omega
      have hst : Ky.readC k x (b :: r) = if 64 < k + Lib.bitLen (b.toNat % 128) then none else if b.toNat < 128 then (if b ≠ 0 ∨ k = 0 then some (x + (b.toNat % 128) * 2 ^ k, r) else none) else Ky.readC (k + 7) (x + (b.toNat % 128) * 2 ^ k) r := rfl
      have hy128 : b.toNat % 128 < 128 := Nat.mod_lt _ (by decide)
      generalize b.toNat % 128 = y at *
      have HL := Lib.hid (fun W => Tryd.bits_Len64 (y : Int) W (by omega) (by omega))
      simp only [Int.toNat_natCast] at HL
      generalize Lib.bitLen y = z at *
      have HST := Lib.hid hst
      have HY := Lib.hid hy
      clear hst hy
      go_wp2_with fail
      refine HT.out.mono ?_
      rintro e w2 ⟨rfl, hr2, hf2, hz2⟩
      have HR2 := Lib.hid hr2
      have HF2 : Hid (Fr (oneB R) w w2 ∧ w2.heap.size = w.heap.size) := Lib.hid ⟨HR.out.2.2.2.2.1.trans hf2 (fun _ _ h => h), by rw [hz2, HR.out.2.2.2.2.2]⟩
      clear hr2 hf2 hz2
      go_wp2_with fail
      refine (HL.out _).mono ?_
      rintro e w' ⟨rfl, rfl⟩
      by_cases h64 : 64 < k + z
      · have h64' : (64 : Int) - (k : Int) < (z : Int) := by omega
        have HP : Hid (Ky.readC 0 0 s = none) := Lib.hid (by rw [HR.out.2.1, HST.out, if_pos h64])
        clear h64
        go_wp2_with fail
        go_ret2
        exact count_none 0 HP.out HR2.out HF2.out
      · have h64' : ¬ ((64 : Int) - (k : Int) < (z : Int)) := by omega
        have hk64 : (k : Int) ≤ 64 := by omega
        have hym : y * 2 ^ k < 18446744073709551616 := by
          have h1 : y * 2 ^ k < 2 ^ z * 2 ^ k := Nat.mul_lt_mul_of_pos_right HY.out.1 (Nat.pow_pos (by decide))
          have h2 : (2 : Nat) ^ z * 2 ^ k = 2 ^ (z + k) := (Nat.pow_add 2 z k).symm
          have h3 : (2 : Nat) ^ (z + k) ≤ 2 ^ 64 := Nat.pow_le_pow_right (by decide) (by omega)
          have h4 : (2 : Nat) ^ 64 = 18446744073709551616 := by decide
          omega
        have hor : bits .or .u64 (x : Int) (IntKind.u64.wrap ((y : Int) * 2 ^ k)) = ((x + y * 2 ^ k : Nat) : Int) := by
          rw [← or_high x y k HR.out.1 hym hx64, IntKind.wrap_u64, show (y : Int) * 2 ^ k = ((y * 2 ^ k : Nat) : Int) by norm_cast, Int.emod_eq_of_lt (by omega) (by omega)]
        have hv : x + y * 2 ^ k < 2 ^ (k + 7) ∧ x + y * 2 ^ k < 18446744073709551616 := by
          have h1 : (y + 1) * 2 ^ k ≤ 2 ^ z * 2 ^ k := Nat.mul_le_mul_right _ HY.out.1
          have h2 : (2 : Nat) ^ z * 2 ^ k = 2 ^ (z + k) := (Nat.pow_add 2 z k).symm
          have h3 : (2 : Nat) ^ (z + k) ≤ 2 ^ 64 := Nat.pow_le_pow_right (by decide) (by omega)
          have h4 : (2 : Nat) ^ 64 = 18446744073709551616 := by decide
          have h5 : (2 : Nat) ^ (z + k) ≤ 2 ^ (k + 7) := Nat.pow_le_pow_right (by decide) (by have := HY.out.2; omega)
          have h6 := HR.out.1
          rw [Nat.add_mul, Nat.one_mul] at h1
          omega
        generalize x + y * 2 ^ k = v at *
        have HV := Lib.hid hv
        clear hv hym
        by_cases hb128 : b.toNat < 128
        · have hb128' : (b.toNat : Int) < 128 := by omega
          by_cases hb0 : b = 0
          · subst hb0
            by_cases hk0 : k = 0
            · have HP : Hid (Ky.readC 0 0 s = some (v, r)) := Lib.hid (by rw [HR.out.2.1, HST.out, if_neg h64, if_pos hb128, if_pos (.inr hk0)])
              have hk0' : ((k : Int) == 0) = true := by simp; omega
              clear h64 hb128 hk0
              go_wp2_with fail
              go_ret2
              exact count_some HP.out HR2.out HF2.out
            · have HP : Hid (Ky.readC 0 0 s = none) := Lib.hid (by rw [HR.out.2.1, HST.out, if_neg h64, if_pos hb128, if_neg (by simp [hk0])])
              have hk0' : ((k : Int) == 0) = false := by simp; omega
              clear h64 hb128 hk0
              go_wp2_with fail
              go_ret2
              exact count_none _ HP.out HR2.out HF2.out
          · have HP : Hid (Ky.readC 0 0 s = some (v, r)) := Lib.hid (by rw [HR.out.2.1, HST.out, if_neg h64, if_pos hb128, if_pos (.inl hb0)])
            have hb1 : ((b.toNat : Int) == 0) = false := (u8_eq' b 0).trans (decide_eq_false hb0)
            have hn1 : ¬ ((b.toNat : Int) = 0) := by simpa using hb1
            have hm1 : ((b.toNat : Int) != 0) = true := by simpa using hn1
            clear h64 hb128 hb0
            go_wp2_with fail
            go_ret2
            exact count_some HP.out HR2.out HF2.out
        · have hb128' : ¬ ((b.toNat : Int) < 128) := by omega
          have HP : Hid (Ky.readC 0 0 s = Ky.readC (k + 7) v r) := Lib.hid (by rw [HR.out.2.1, HST.out, if_neg h64, if_neg hb128])
          clear h64 hb128
          go_wp2_with fail
          go_roundw
          case rel => exact ⟨k + 7, v, r, by omega, rfl, by go_num, HV.out.2, Lib.hid ⟨HV.out.1, HP.out, by have := HR.out.2.2.1; simp at this; omega, HR2.out, HF2.out⟩⟩
          case measure => (simp [intOf]) <;> omega
end Go.Proofs.YtfbdikaaeedeoaaDoor
