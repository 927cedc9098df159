/-
  What At answers: the program's.
-/
import Derived.Test.YtmodaefcipchpaaDoorCharP
import Derived.Test.YtmodaefcipchpaaDoorMathAt
import Derived.Deep.QuietTactic
import Derived.BigQuiet
namespace Go.Proofs.YtmodaefcipchpaaDoor
open Go.RowKit

def atV : Option (Int × Nat) → Value
  | some (c, n) => .tuple #[.int .i64 c, .int .i64 n, .bool true]
  | none => .tuple #[.int .i64 0, .int .i64 0, .bool false]

theorem below_drewN {B : Nat} {w w' : World} (h : Below B w w') (n : Nat) : Below B w (w'.drewN n) := ⟨h.os, h.tape, h.output, h.size, h.block⟩

theorem bit_all : ∀ b : Fin 256, (192 ≤ b.val ∧ b.val < 224 → bits BinOp.andNot IntKind.u8 (b.val : Int) 192 = (b.val : Int) - 192) ∧ (224 ≤ b.val ∧ b.val < 240 → bits BinOp.andNot IntKind.u8 (b.val : Int) 224 = (b.val : Int) - 224)
    ∧ (240 ≤ b.val ∧ b.val < 248 → bits BinOp.andNot IntKind.u8 (b.val : Int) 240 = (b.val : Int) - 240) ∧ bits BinOp.andNot IntKind.u8 (b.val : Int) 0 = (b.val : Int)
    ∧ bits BinOp.andNot IntKind.u8 (b.val : Int) 63 = (b.val : Int) - (b.val : Int) % 64 ∧ bits BinOp.and IntKind.u8 (b.val : Int) 63 = (b.val : Int) % 64 := by decide +kernel
theorem bit_at (b : UInt8) : (192 ≤ b.toNat ∧ b.toNat < 224 → bits BinOp.andNot IntKind.u8 (b.toNat : Int) 192 = (b.toNat : Int) - 192) ∧ (224 ≤ b.toNat ∧ b.toNat < 240 → bits BinOp.andNot IntKind.u8 (b.toNat : Int) 224 = (b.toNat : Int) - 224)
    ∧ (240 ≤ b.toNat ∧ b.toNat < 248 → bits BinOp.andNot IntKind.u8 (b.toNat : Int) 240 = (b.toNat : Int) - 240) ∧ bits BinOp.andNot IntKind.u8 (b.toNat : Int) 0 = (b.toNat : Int)
    ∧ bits BinOp.andNot IntKind.u8 (b.toNat : Int) 63 = (b.toNat : Int) - (b.toNat : Int) % 64 ∧ bits BinOp.and IntKind.u8 (b.toNat : Int) 63 = (b.toNat : Int) % 64 := bit_all ⟨b.toNat, UInt8.toNat_lt b⟩
/-- a byte that goes on with a character: what is asked of it, and its bits -/
theorem bit_cont (b : UInt8) (h0 : 128 ≤ b.toNat) (h1 : b.toNat < 192) : bits BinOp.andNot IntKind.u8 (b.toNat : Int) 63 = 128 ∧ bits BinOp.and IntKind.u8 (b.toNat : Int) 63 = (b.toNat : Int) - 128 := by
  obtain ⟨-, -, -, -, a, c⟩ := bit_at b
  rw [a, c]; omega
theorem bit_not (b : UInt8) (h : ¬ (128 ≤ b.toNat ∧ b.toNat < 192)) : (bits BinOp.andNot IntKind.u8 (b.toNat : Int) 63 != 128) = true := by
  obtain ⟨-, -, -, -, a, -⟩ := bit_at b
  rw [a, bne_iff_ne]; omega

theorem mark1' (w : World) : Calls Tryd.prog 21 #[.int .i64 1] w fun e w' => e = .returned (.int .u8 0) ∧ w' = w := (mark1 w).mono fun _ _ ⟨a, b⟩ => ⟨a, b.symm⟩
theorem mark2' (w : World) : Calls Tryd.prog 21 #[.int .i64 2] w fun e w' => e = .returned (.int .u8 192) ∧ w' = w := (mark2 w).mono fun _ _ ⟨a, b⟩ => ⟨a, b.symm⟩
theorem mark3' (w : World) : Calls Tryd.prog 21 #[.int .i64 3] w fun e w' => e = .returned (.int .u8 224) ∧ w' = w := (mark3 w).mono fun _ _ ⟨a, b⟩ => ⟨a, b.symm⟩
theorem mark4' (w : World) : Calls Tryd.prog 21 #[.int .i64 4] w fun e w' => e = .returned (.int .u8 240) ∧ w' = w := (mark4 w).mono fun _ _ ⟨a, b⟩ => ⟨a, b.symm⟩

set_option maxHeartbeats 1600000 in
set_option maxRecDepth 100000 in
theorem at_2 (s : ByteArray) (j : Nat) (w : World) (hs : s.size ≤ maxLen) (hj : j < s.size) (h0 : 192 ≤ (s[j]'hj).toNat) (h1 : (s[j]'hj).toNat < 224) :
    Calls Tryd.prog 13 #[.string s, .int .i64 j] w fun e w' => e = .returned (atV (Sp.dec s j)) ∧ Below w.heap.size w w' := by
  unfold maxLen at hs
  have hann : Sp.ann ((s[j]'hj).toNat : Int).toNat = 2 := by
    rw [Int.toNat_natCast]; unfold Sp.ann
    rw [if_neg (by omega), if_neg (by omega), if_pos h1]
  have Hann := Lib.hid hann
  clear hann
  have hb8 : ((s[j]'hj).toNat : Int) ≤ 255 := by omega
  have g0 := Lib.hid (Sp.bt_get s j hj)
  have hsg : IntKind.u8.signed = false := rfl
  have e0 := (bit_at (s[j]'hj)).1 ⟨h0, h1⟩
  by_cases hroom : j + 2 ≤ s.size
  · have g1 := Lib.hid (Sp.bt_get s (j + 1) (by omega))
    have hb1 : ((s[j + 1]'(by omega)).toNat : Int) ≤ 255 := by have := UInt8.toNat_lt (s[j + 1]'(by omega)); omega
    by_cases hc1 : 128 ≤ (s[j + 1]'(by omega)).toNat ∧ (s[j + 1]'(by omega)).toNat < 192
    · obtain ⟨hc1, hd1⟩ := hc1
      obtain ⟨e1, f1⟩ := bit_cont _ hc1 hd1
      by_cases hz : Sp.sizeOf ((((s[j]'hj).toNat : Int) - 192) * 64 + (((s[j + 1]'(by omega)).toNat : Int) - 128)) = 2
      · have hn : Sp.dec s j = some ((((s[j]'hj).toNat : Int) - 192) * 64 + (((s[j + 1]'(by omega)).toNat : Int) - 128), 2) := by
          have := Sp.dec_2 (s := s) (j := j) ⟨by omega, by rw [g0.out]; exact h0, by rw [g0.out]; exact h1, by unfold Sp.cont; rw [g1.out]; exact ⟨hc1, hd1⟩, by unfold Sp.c2; rw [g0.out, g1.out]; exact hz⟩
          rw [this]; unfold Sp.c2; rw [g0.out, g1.out]
        have Hn := Lib.hid hn
        have Hz := Lib.hid hz
        clear hn hz
        go_enter Tryd.func13, Tryd.ntmps13
        go_wp2_with fail
        refine (announced_any _ _ (by omega) hb8).mono ?_
        rintro e w' ⟨rfl, rfl⟩
        rw [Hann.out]
        go_wp2_with fail
        go_quiet ((go_at_call 21; exact Calls.quiet_of_same (mark2' _)))
        go_wp2_with fail
        refine wp_loop_rounds 2 ?_
        rw [rounds_succ]
        go_wp2_with fail
        rw [rounds_succ]
        go_wp2_with fail
        refine (size_any _ _).mono ?_
        rintro e w' ⟨rfl, rfl⟩
        rw [Hz.out]
        go_wp2_with fail
        go_ret3
        exact ⟨by rw [Hn.out]; rfl, below_drewN (Below.refl _ _) _⟩
      · have hn : Sp.dec s j = none := Sp.dec_none2 (by rw [g0.out]; exact h0) (by rw [g0.out]; exact h1) (fun hh => hz (by have := hh.2.2; unfold Sp.c2 at this; rw [g0.out, g1.out] at this; exact this))
        have Hn := Lib.hid hn
        have hz' : (((Sp.sizeOf ((((s[j]'hj).toNat : Int) - 192) * 64 + (((s[j + 1]'(by omega)).toNat : Int) - 128)) : Nat) : Int) != 2) = true := by rw [bne_iff_ne]; omega
        clear hn hz
        go_enter Tryd.func13, Tryd.ntmps13
        go_wp2_with fail
        refine (announced_any _ _ (by omega) hb8).mono ?_
        rintro e w' ⟨rfl, rfl⟩
        rw [Hann.out]
        go_wp2_with fail
        go_quiet ((go_at_call 21; exact Calls.quiet_of_same (mark2' _)))
        go_wp2_with fail
        refine wp_loop_rounds 2 ?_
        rw [rounds_succ]
        go_wp2_with fail
        rw [rounds_succ]
        go_wp2_with fail
        refine (size_any _ _).mono ?_
        rintro e w' ⟨rfl, rfl⟩
        go_wp2_with fail
        go_ret3
        exact ⟨by rw [Hn.out]; rfl, by first | exact Below.refl _ _ | exact below_drewN (Below.refl _ _) _⟩
    · have e1 := bit_not _ hc1
      have hn : Sp.dec s j = none := Sp.dec_none2 (by rw [g0.out]; exact h0) (by rw [g0.out]; exact h1) (fun hh => hc1 (by have := hh.2.1; unfold Sp.cont at this; rw [g1.out] at this; exact this))
      have Hn := Lib.hid hn
      clear hn hc1
      go_enter Tryd.func13, Tryd.ntmps13
      go_wp2_with fail
      refine (announced_any _ _ (by omega) hb8).mono ?_
      rintro e w' ⟨rfl, rfl⟩
      rw [Hann.out]
      go_wp2_with fail
      go_quiet ((go_at_call 21; exact Calls.quiet_of_same (mark2' _)))
      go_wp2_with fail
      refine wp_loop_rounds 2 ?_
      rw [rounds_succ]
      go_wp2_with fail
      go_ret3
      exact ⟨by rw [Hn.out]; rfl, by first | exact Below.refl _ _ | exact below_drewN (Below.refl _ _) _⟩
  · have hn : Sp.dec s j = none := Sp.dec_none2 (by rw [g0.out]; exact h0) (by rw [g0.out]; exact h1) (fun hh => hroom hh.1)
    have Hn := Lib.hid hn
    clear hn
    go_enter Tryd.func13, Tryd.ntmps13
    go_wp2_with fail
    refine (announced_any _ _ (by omega) hb8).mono ?_
    rintro e w' ⟨rfl, rfl⟩
    rw [Hann.out]
    go_wp2_with fail
    go_ret3
    exact ⟨by rw [Hn.out]; rfl, by first | exact Below.refl _ _ | exact below_drewN (Below.refl _ _) _⟩

set_option maxHeartbeats 1600000 in
set_option maxRecDepth 100000 in
theorem at_3 (s : ByteArray) (j : Nat) (w : World) (hs : s.size ≤ maxLen) (hj : j < s.size) (h0 : 224 ≤ (s[j]'hj).toNat) (h1 : (s[j]'hj).toNat < 240) :
    Calls Tryd.prog 13 #[.string s, .int .i64 j] w fun e w' => e = .returned (atV (Sp.dec s j)) ∧ Below w.heap.size w w' := by
  unfold maxLen at hs
  have hann : Sp.ann ((s[j]'hj).toNat : Int).toNat = 3 := by
    rw [Int.toNat_natCast]; unfold Sp.ann
    rw [if_neg (by omega), if_neg (by omega), if_neg (by omega), if_pos h1]
  have Hann := Lib.hid hann
  clear hann
  have hb8 : ((s[j]'hj).toNat : Int) ≤ 255 := by omega
  have g0 := Lib.hid (Sp.bt_get s j hj)
  have hsg : IntKind.u8.signed = false := rfl
  have e0 := (bit_at (s[j]'hj)).2.1 ⟨h0, h1⟩
  by_cases hroom : j + 3 ≤ s.size
  · have g1 := Lib.hid (Sp.bt_get s (j + 1) (by omega))
    have hb1 : ((s[j + 1]'(by omega)).toNat : Int) ≤ 255 := by have := UInt8.toNat_lt (s[j + 1]'(by omega)); omega
    have g2 := Lib.hid (Sp.bt_get s (j + 2) (by omega))
    have hb2 : ((s[j + 2]'(by omega)).toNat : Int) ≤ 255 := by have := UInt8.toNat_lt (s[j + 2]'(by omega)); omega
    by_cases hc1 : 128 ≤ (s[j + 1]'(by omega)).toNat ∧ (s[j + 1]'(by omega)).toNat < 192
    · obtain ⟨hc1, hd1⟩ := hc1
      obtain ⟨e1, f1⟩ := bit_cont _ hc1 hd1
      by_cases hc2 : 128 ≤ (s[j + 2]'(by omega)).toNat ∧ (s[j + 2]'(by omega)).toNat < 192
      · obtain ⟨hc2, hd2⟩ := hc2
        obtain ⟨e2, f2⟩ := bit_cont _ hc2 hd2
        by_cases hz : Sp.sizeOf (((((s[j]'hj).toNat : Int) - 224) * 64 + (((s[j + 1]'(by omega)).toNat : Int) - 128)) * 64 + (((s[j + 2]'(by omega)).toNat : Int) - 128)) = 3
        · have hn : Sp.dec s j = some (((((s[j]'hj).toNat : Int) - 224) * 64 + (((s[j + 1]'(by omega)).toNat : Int) - 128)) * 64 + (((s[j + 2]'(by omega)).toNat : Int) - 128), 3) := by
            have := Sp.dec_3 (s := s) (j := j) ⟨by omega, by rw [g0.out]; exact h0, by rw [g0.out]; exact h1, by unfold Sp.cont; rw [g1.out]; exact ⟨hc1, hd1⟩, by unfold Sp.cont; rw [g2.out]; exact ⟨hc2, hd2⟩, by unfold Sp.c3; rw [g0.out, g1.out, g2.out]; exact hz⟩
            rw [this]; unfold Sp.c3; rw [g0.out, g1.out, g2.out]
          have Hn := Lib.hid hn
          have Hz := Lib.hid hz
          clear hn hz
          go_enter Tryd.func13, Tryd.ntmps13
          go_wp2_with fail
          refine (announced_any _ _ (by omega) hb8).mono ?_
          rintro e w' ⟨rfl, rfl⟩
          rw [Hann.out]
          go_wp2_with fail
          go_quiet ((go_at_call 21; exact Calls.quiet_of_same (mark3' _)))
          go_wp2_with fail
          refine wp_loop_rounds 3 ?_
          rw [rounds_succ]
          go_wp2_with fail
          rw [rounds_succ]
          go_wp2_with fail
          rw [rounds_succ]
          go_wp2_with fail
          refine (size_any _ _).mono ?_
          rintro e w' ⟨rfl, rfl⟩
          rw [Hz.out]
          go_wp2_with fail
          go_ret3
          exact ⟨by rw [Hn.out]; rfl, below_drewN (Below.refl _ _) _⟩
        · have hn : Sp.dec s j = none := Sp.dec_none3 (by rw [g0.out]; exact h0) (by rw [g0.out]; exact h1) (fun hh => hz (by have := hh.2.2.2; unfold Sp.c3 at this; rw [g0.out, g1.out, g2.out] at this; exact this))
          have Hn := Lib.hid hn
          have hz' : (((Sp.sizeOf (((((s[j]'hj).toNat : Int) - 224) * 64 + (((s[j + 1]'(by omega)).toNat : Int) - 128)) * 64 + (((s[j + 2]'(by omega)).toNat : Int) - 128)) : Nat) : Int) != 3) = true := by rw [bne_iff_ne]; omega
          clear hn hz
          go_enter Tryd.func13, Tryd.ntmps13
          go_wp2_with fail
          refine (announced_any _ _ (by omega) hb8).mono ?_
          rintro e w' ⟨rfl, rfl⟩
          rw [Hann.out]
          go_wp2_with fail
          go_quiet ((go_at_call 21; exact Calls.quiet_of_same (mark3' _)))
          go_wp2_with fail
          refine wp_loop_rounds 3 ?_
          rw [rounds_succ]
          go_wp2_with fail
          rw [rounds_succ]
          go_wp2_with fail
          rw [rounds_succ]
          go_wp2_with fail
          refine (size_any _ _).mono ?_
          rintro e w' ⟨rfl, rfl⟩
          go_wp2_with fail
          go_ret3
          exact ⟨by rw [Hn.out]; rfl, by first | exact Below.refl _ _ | exact below_drewN (Below.refl _ _) _⟩
      · have e2 := bit_not _ hc2
        have hn : Sp.dec s j = none := Sp.dec_none3 (by rw [g0.out]; exact h0) (by rw [g0.out]; exact h1) (fun hh => hc2 (by have := hh.2.2.1; unfold Sp.cont at this; rw [g2.out] at this; exact this))
        have Hn := Lib.hid hn
        clear hn hc2
        go_enter Tryd.func13, Tryd.ntmps13
        go_wp2_with fail
        refine (announced_any _ _ (by omega) hb8).mono ?_
        rintro e w' ⟨rfl, rfl⟩
        rw [Hann.out]
        go_wp2_with fail
        go_quiet ((go_at_call 21; exact Calls.quiet_of_same (mark3' _)))
        go_wp2_with fail
        refine wp_loop_rounds 3 ?_
        rw [rounds_succ]
        go_wp2_with fail
        rw [rounds_succ]
        go_wp2_with fail
        go_ret3
        exact ⟨by rw [Hn.out]; rfl, by first | exact Below.refl _ _ | exact below_drewN (Below.refl _ _) _⟩
    · have e1 := bit_not _ hc1
      have hn : Sp.dec s j = none := Sp.dec_none3 (by rw [g0.out]; exact h0) (by rw [g0.out]; exact h1) (fun hh => hc1 (by have := hh.2.1; unfold Sp.cont at this; rw [g1.out] at this; exact this))
      have Hn := Lib.hid hn
      clear hn hc1
      go_enter Tryd.func13, Tryd.ntmps13
      go_wp2_with fail
      refine (announced_any _ _ (by omega) hb8).mono ?_
      rintro e w' ⟨rfl, rfl⟩
      rw [Hann.out]
      go_wp2_with fail
      go_quiet ((go_at_call 21; exact Calls.quiet_of_same (mark3' _)))
      go_wp2_with fail
      refine wp_loop_rounds 3 ?_
      rw [rounds_succ]
      go_wp2_with fail
      go_ret3
      exact ⟨by rw [Hn.out]; rfl, by first | exact Below.refl _ _ | exact below_drewN (Below.refl _ _) _⟩
  · have hn : Sp.dec s j = none := Sp.dec_none3 (by rw [g0.out]; exact h0) (by rw [g0.out]; exact h1) (fun hh => hroom hh.1)
    have Hn := Lib.hid hn
    clear hn
    go_enter Tryd.func13, Tryd.ntmps13
    go_wp2_with fail
    refine (announced_any _ _ (by omega) hb8).mono ?_
    rintro e w' ⟨rfl, rfl⟩
    rw [Hann.out]
    go_wp2_with fail
    go_ret3
    exact ⟨by rw [Hn.out]; rfl, by first | exact Below.refl _ _ | exact below_drewN (Below.refl _ _) _⟩

set_option maxHeartbeats 1600000 in
set_option maxRecDepth 100000 in
theorem at_4 (s : ByteArray) (j : Nat) (w : World) (hs : s.size ≤ maxLen) (hj : j < s.size) (h0 : 240 ≤ (s[j]'hj).toNat) (h1 : (s[j]'hj).toNat < 248) :
    Calls Tryd.prog 13 #[.string s, .int .i64 j] w fun e w' => e = .returned (atV (Sp.dec s j)) ∧ Below w.heap.size w w' := by
  unfold maxLen at hs
  have hann : Sp.ann ((s[j]'hj).toNat : Int).toNat = 4 := by
    rw [Int.toNat_natCast]; unfold Sp.ann
    rw [if_neg (by omega), if_neg (by omega), if_neg (by omega), if_neg (by omega), if_pos h1]
  have Hann := Lib.hid hann
  clear hann
  have hb8 : ((s[j]'hj).toNat : Int) ≤ 255 := by omega
  have g0 := Lib.hid (Sp.bt_get s j hj)
  have hsg : IntKind.u8.signed = false := rfl
  have e0 := (bit_at (s[j]'hj)).2.2.1 ⟨h0, h1⟩
  by_cases hroom : j + 4 ≤ s.size
  · have g1 := Lib.hid (Sp.bt_get s (j + 1) (by omega))
    have hb1 : ((s[j + 1]'(by omega)).toNat : Int) ≤ 255 := by have := UInt8.toNat_lt (s[j + 1]'(by omega)); omega
    have g2 := Lib.hid (Sp.bt_get s (j + 2) (by omega))
    have hb2 : ((s[j + 2]'(by omega)).toNat : Int) ≤ 255 := by have := UInt8.toNat_lt (s[j + 2]'(by omega)); omega
    have g3 := Lib.hid (Sp.bt_get s (j + 3) (by omega))
    have hb3 : ((s[j + 3]'(by omega)).toNat : Int) ≤ 255 := by have := UInt8.toNat_lt (s[j + 3]'(by omega)); omega
    by_cases hc1 : 128 ≤ (s[j + 1]'(by omega)).toNat ∧ (s[j + 1]'(by omega)).toNat < 192
    · obtain ⟨hc1, hd1⟩ := hc1
      obtain ⟨e1, f1⟩ := bit_cont _ hc1 hd1
      by_cases hc2 : 128 ≤ (s[j + 2]'(by omega)).toNat ∧ (s[j + 2]'(by omega)).toNat < 192
      · obtain ⟨hc2, hd2⟩ := hc2
        obtain ⟨e2, f2⟩ := bit_cont _ hc2 hd2
        by_cases hc3 : 128 ≤ (s[j + 3]'(by omega)).toNat ∧ (s[j + 3]'(by omega)).toNat < 192
        · obtain ⟨hc3, hd3⟩ := hc3
          obtain ⟨e3, f3⟩ := bit_cont _ hc3 hd3
          by_cases hz : Sp.sizeOf ((((((s[j]'hj).toNat : Int) - 240) * 64 + (((s[j + 1]'(by omega)).toNat : Int) - 128)) * 64 + (((s[j + 2]'(by omega)).toNat : Int) - 128)) * 64 + (((s[j + 3]'(by omega)).toNat : Int) - 128)) = 4
          · have hn : Sp.dec s j = some ((((((s[j]'hj).toNat : Int) - 240) * 64 + (((s[j + 1]'(by omega)).toNat : Int) - 128)) * 64 + (((s[j + 2]'(by omega)).toNat : Int) - 128)) * 64 + (((s[j + 3]'(by omega)).toNat : Int) - 128), 4) := by
              have := Sp.dec_4 (s := s) (j := j) ⟨by omega, by rw [g0.out]; exact h0, by rw [g0.out]; exact h1, by unfold Sp.cont; rw [g1.out]; exact ⟨hc1, hd1⟩, by unfold Sp.cont; rw [g2.out]; exact ⟨hc2, hd2⟩, by unfold Sp.cont; rw [g3.out]; exact ⟨hc3, hd3⟩, by unfold Sp.c4; rw [g0.out, g1.out, g2.out, g3.out]; exact hz⟩
              rw [this]; unfold Sp.c4; rw [g0.out, g1.out, g2.out, g3.out]
            have Hn := Lib.hid hn
            have Hz := Lib.hid hz
            clear hn hz
            go_enter Tryd.func13, Tryd.ntmps13
            go_wp2_with fail
            refine (announced_any _ _ (by omega) hb8).mono ?_
            rintro e w' ⟨rfl, rfl⟩
            rw [Hann.out]
            go_wp2_with fail
            go_quiet ((go_at_call 21; exact Calls.quiet_of_same (mark4' _)))
            go_wp2_with fail
            refine wp_loop_rounds 4 ?_
            rw [rounds_succ]
            go_wp2_with fail
            rw [rounds_succ]
            go_wp2_with fail
            rw [rounds_succ]
            go_wp2_with fail
            rw [rounds_succ]
            go_wp2_with fail
            refine (size_any _ _).mono ?_
            rintro e w' ⟨rfl, rfl⟩
            rw [Hz.out]
            go_wp2_with fail
            go_ret3
            exact ⟨by rw [Hn.out]; rfl, below_drewN (Below.refl _ _) _⟩
          · have hn : Sp.dec s j = none := Sp.dec_none4 (by rw [g0.out]; exact h0) (by rw [g0.out]; exact h1) (fun hh => hz (by have := hh.2.2.2.2; unfold Sp.c4 at this; rw [g0.out, g1.out, g2.out, g3.out] at this; exact this))
            have Hn := Lib.hid hn
            have hz' : (((Sp.sizeOf ((((((s[j]'hj).toNat : Int) - 240) * 64 + (((s[j + 1]'(by omega)).toNat : Int) - 128)) * 64 + (((s[j + 2]'(by omega)).toNat : Int) - 128)) * 64 + (((s[j + 3]'(by omega)).toNat : Int) - 128)) : Nat) : Int) != 4) = true := by rw [bne_iff_ne]; omega
            clear hn hz
            go_enter Tryd.func13, Tryd.ntmps13
            go_wp2_with fail
            refine (announced_any _ _ (by omega) hb8).mono ?_
            rintro e w' ⟨rfl, rfl⟩
            rw [Hann.out]
            go_wp2_with fail
            go_quiet ((go_at_call 21; exact Calls.quiet_of_same (mark4' _)))
            go_wp2_with fail
            refine wp_loop_rounds 4 ?_
            rw [rounds_succ]
            go_wp2_with fail
            rw [rounds_succ]
            go_wp2_with fail
            rw [rounds_succ]
            go_wp2_with fail
            rw [rounds_succ]
            go_wp2_with fail
            refine (size_any _ _).mono ?_
            rintro e w' ⟨rfl, rfl⟩
            go_wp2_with fail
            go_ret3
            exact ⟨by rw [Hn.out]; rfl, by first | exact Below.refl _ _ | exact below_drewN (Below.refl _ _) _⟩
        · have e3 := bit_not _ hc3
          have hn : Sp.dec s j = none := Sp.dec_none4 (by rw [g0.out]; exact h0) (by rw [g0.out]; exact h1) (fun hh => hc3 (by have := hh.2.2.2.1; unfold Sp.cont at this; rw [g3.out] at this; exact this))
          have Hn := Lib.hid hn
          clear hn hc3
          go_enter Tryd.func13, Tryd.ntmps13
          go_wp2_with fail
          refine (announced_any _ _ (by omega) hb8).mono ?_
          rintro e w' ⟨rfl, rfl⟩
          rw [Hann.out]
          go_wp2_with fail
          go_quiet ((go_at_call 21; exact Calls.quiet_of_same (mark4' _)))
          go_wp2_with fail
          refine wp_loop_rounds 4 ?_
          rw [rounds_succ]
          go_wp2_with fail
          rw [rounds_succ]
          go_wp2_with fail
          rw [rounds_succ]
          go_wp2_with fail
          go_ret3
          exact ⟨by rw [Hn.out]; rfl, by first | exact Below.refl _ _ | exact below_drewN (Below.refl _ _) _⟩
      · have e2 := bit_not _ hc2
        have hn : Sp.dec s j = none := Sp.dec_none4 (by rw [g0.out]; exact h0) (by rw [g0.out]; exact h1) (fun hh => hc2 (by have := hh.2.2.1; unfold Sp.cont at this; rw [g2.out] at this; exact this))
        have Hn := Lib.hid hn
        clear hn hc2
        go_enter Tryd.func13, Tryd.ntmps13
        go_wp2_with fail
        refine (announced_any _ _ (by omega) hb8).mono ?_
        rintro e w' ⟨rfl, rfl⟩
        rw [Hann.out]
        go_wp2_with fail
        go_quiet ((go_at_call 21; exact Calls.quiet_of_same (mark4' _)))
        go_wp2_with fail
        refine wp_loop_rounds 4 ?_
        rw [rounds_succ]
        go_wp2_with fail
        rw [rounds_succ]
        go_wp2_with fail
        go_ret3
        exact ⟨by rw [Hn.out]; rfl, by first | exact Below.refl _ _ | exact below_drewN (Below.refl _ _) _⟩
    · have e1 := bit_not _ hc1
      have hn : Sp.dec s j = none := Sp.dec_none4 (by rw [g0.out]; exact h0) (by rw [g0.out]; exact h1) (fun hh => hc1 (by have := hh.2.1; unfold Sp.cont at this; rw [g1.out] at this; exact this))
      have Hn := Lib.hid hn
      clear hn hc1
      go_enter Tryd.func13, Tryd.ntmps13
      go_wp2_with fail
      refine (announced_any _ _ (by omega) hb8).mono ?_
      rintro e w' ⟨rfl, rfl⟩
      rw [Hann.out]
      go_wp2_with fail
      go_quiet ((go_at_call 21; exact Calls.quiet_of_same (mark4' _)))
      go_wp2_with fail
      refine wp_loop_rounds 4 ?_
      rw [rounds_succ]
      go_wp2_with fail
      go_ret3
      exact ⟨by rw [Hn.out]; rfl, by first | exact Below.refl _ _ | exact below_drewN (Below.refl _ _) _⟩
  · have hn : Sp.dec s j = none := Sp.dec_none4 (by rw [g0.out]; exact h0) (by rw [g0.out]; exact h1) (fun hh => hroom hh.1)
    have Hn := Lib.hid hn
    clear hn
    go_enter Tryd.func13, Tryd.ntmps13
    go_wp2_with fail
    refine (announced_any _ _ (by omega) hb8).mono ?_
    rintro e w' ⟨rfl, rfl⟩
    rw [Hann.out]
    go_wp2_with fail
    go_ret3
    exact ⟨by rw [Hn.out]; rfl, by first | exact Below.refl _ _ | exact below_drewN (Below.refl _ _) _⟩

set_option maxHeartbeats 1600000 in
set_option maxRecDepth 100000 in
theorem at_1 (s : ByteArray) (j : Nat) (w : World) (hs : s.size ≤ maxLen) (hj : j < s.size) (h1 : (s[j]'hj).toNat < 128) :
    Calls Tryd.prog 13 #[.string s, .int .i64 j] w fun e w' => e = .returned (atV (Sp.dec s j)) ∧ Below w.heap.size w w' := by
  unfold maxLen at hs
  have hann : Sp.ann ((s[j]'hj).toNat : Int).toNat = 1 := by
    rw [Int.toNat_natCast]; unfold Sp.ann
    rw [if_pos h1]
  have Hann := Lib.hid hann
  clear hann
  have hb8 : ((s[j]'hj).toNat : Int) ≤ 255 := by omega
  have g0 := Lib.hid (Sp.bt_get s j hj)
  have hsg : IntKind.u8.signed = false := rfl
  have e0 := (bit_at (s[j]'hj)).2.2.2.1
  have Hz := Lib.hid (Sp.size_1 (c := ((s[j]'hj).toNat : Int)) (by omega) (by omega))
  have Hn : Hid (Sp.dec s j = some (((s[j]'hj).toNat : Int), 1)) := by
    have := Sp.dec_1 (s := s) (j := j) ⟨by omega, by rw [g0.out]; exact h1⟩
    rw [g0.out] at this; exact this
  go_enter Tryd.func13, Tryd.ntmps13
  go_wp2_with fail
  refine (announced_any _ _ (by omega) hb8).mono ?_
  rintro e w' ⟨rfl, rfl⟩
  rw [Hann.out]
  go_wp2_with fail
  go_quiet ((go_at_call 21; exact Calls.quiet_of_same (mark1' _)))
  go_wp2_with fail
  refine wp_loop_rounds 1 ?_
  rw [rounds_succ]
  go_wp2_with fail
  refine (size_any _ _).mono ?_
  rintro e w' ⟨rfl, rfl⟩
  rw [Hz.out]
  go_wp2_with fail
  go_ret3
  exact ⟨by rw [Hn.out]; rfl, below_drewN (Below.refl _ _) _⟩

set_option maxHeartbeats 1600000 in
set_option maxRecDepth 100000 in
theorem at_0 (s : ByteArray) (j : Nat) (w : World) (hj : j < s.size) (h0 : (128 ≤ (s[j]'hj).toNat ∧ (s[j]'hj).toNat < 192) ∨ 248 ≤ (s[j]'hj).toNat) :
    Calls Tryd.prog 13 #[.string s, .int .i64 j] w fun e w' => e = .returned (atV (Sp.dec s j)) ∧ Below w.heap.size w w' := by
  have hann : Sp.ann ((s[j]'hj).toNat : Int).toNat = 0 := by
    rw [Int.toNat_natCast]; unfold Sp.ann
    rw [if_neg (by omega)]
    by_cases h : (s[j]'hj).toNat < 192
    · rw [if_pos h]
    · rw [if_neg h, if_neg (by omega), if_neg (by omega), if_neg (by omega)]
  have Hann := Lib.hid hann
  clear hann
  have hb8 : ((s[j]'hj).toNat : Int) ≤ 255 := by have := UInt8.toNat_lt (s[j]'hj); omega
  have Hn := Lib.hid (Sp.dec_none0 (s := s) (j := j) (by rw [Sp.bt_get s j hj]; exact h0))
  clear h0
  go_enter Tryd.func13, Tryd.ntmps13
  go_wp2_with fail
  refine (announced_any _ _ (by omega) hb8).mono ?_
  rintro e w' ⟨rfl, rfl⟩
  rw [Hann.out]
  go_wp2_with fail
  go_ret3
  exact ⟨by rw [Hn.out]; rfl, Below.refl _ _⟩

set_option maxHeartbeats 1600000 in
set_option maxRecDepth 100000 in
theorem at_out (s : ByteArray) (i : Int) (w : World) (hs : s.size ≤ maxLen) (h : i < 0 ∨ (s.size : Int) ≤ i) :
    Calls Tryd.prog 13 #[.string s, .int .i64 i] w fun e w' => e = .returned (atV none) ∧ Below w.heap.size w w' := by
  unfold maxLen at hs
  rcases h with h | h
  · go_enter Tryd.func13, Tryd.ntmps13
    go_wp2_with fail
    go_ret3
    exact ⟨rfl, Below.refl _ _⟩
  · have h' : 0 ≤ i := by omega
    go_enter Tryd.func13, Tryd.ntmps13
    go_wp2_with fail
    go_ret3
    exact ⟨rfl, Below.refl _ _⟩

theorem at_in (s : ByteArray) (j : Nat) (w : World) (hs : s.size ≤ maxLen) (hj : j < s.size) :
    Calls Tryd.prog 13 #[.string s, .int .i64 j] w fun e w' => e = .returned (atV (Sp.dec s j)) ∧ Below w.heap.size w w' := by
  by_cases h1 : (s[j]'hj).toNat < 128
  · exact at_1 s j w hs hj h1
  · by_cases h2 : (s[j]'hj).toNat < 192
    · exact at_0 s j w hj (.inl ⟨by omega, h2⟩)
    · by_cases h3 : (s[j]'hj).toNat < 224
      · exact at_2 s j w hs hj (by omega) h3
      · by_cases h4 : (s[j]'hj).toNat < 240
        · exact at_3 s j w hs hj (by omega) h4
        · by_cases h5 : (s[j]'hj).toNat < 248
          · exact at_4 s j w hs hj (by omega) h5
          · exact at_0 s j w hj (.inr (by omega))

theorem at_any (s : ByteArray) (i : Int) (w : World) (hs : s.size ≤ maxLen) :
    Calls Tryd.prog 13 #[.string s, .int .i64 i] w fun e w' => e = .returned (atV (Sp.decAt s i)) ∧ Below w.heap.size w w' := by
  by_cases h : i < 0 ∨ (s.size : Int) ≤ i
  · have : Sp.decAt s i = none := by
      unfold Sp.decAt
      by_cases h0 : i < 0
      · rw [if_pos h0]
      · rw [if_neg h0]; exact Sp.dec_out (by omega)
    rw [this]; exact at_out s i w hs h
  · obtain ⟨j, rfl⟩ : ∃ j : Nat, i = j := ⟨i.toNat, by omega⟩
    have : Sp.decAt s (j : Int) = Sp.dec s j := by unfold Sp.decAt; rw [if_neg (by omega)]; rfl
    rw [this]; exact at_in s j w hs (by omega)
end Go.Proofs.YtmodaefcipchpaaDoor
