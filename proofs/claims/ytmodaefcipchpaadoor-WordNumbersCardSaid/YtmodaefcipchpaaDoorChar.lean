/-
  The parts of characters: size, firstMark, announced.
-/
import Derived.Test.YtmodaefcipchpaaDoorMath
import Derived.Test.YtmodaefcipchpaaDoorSpan
import Derived.Handy
import Derived.Test.YtmodaefcipchpaaDoorShelf
namespace Go.Proofs.YtmodaefcipchpaaDoor
open Go.RowKit

theorem ret_i64 {a b : Int} (h : a = b) : Ending.returned (.int .i64 a) = .returned (.int .i64 b) := by rw [h]

set_option maxHeartbeats 400000 in
set_option maxRecDepth 100000 in
theorem size_any (c : Int) (w : World) :
    Calls Tryd.prog 20 #[.int .i32 c] w fun e w' => e = .returned (.int .i64 (Sp.sizeOf c)) ∧ w = w' := by
  by_cases h0 : c < 0 ∨ 1114111 < c ∨ (55296 ≤ c ∧ c ≤ 57343)
  · rw [Sp.size_0 h0]
    rcases h0 with h0 | h0 | ⟨h0, h1⟩
    all_goals
      go_enter Tryd.func20, Tryd.ntmps20
      go_wp2
      all_goals (go_ret; exact ⟨rfl, rfl⟩)
  · by_cases h1 : c < 128
    · rw [Sp.size_1 (by omega) h1]
      have a1 : 0 ≤ c := by omega
      clear h0
      go_enter Tryd.func20, Tryd.ntmps20
      go_wp2
      all_goals (go_ret; exact ⟨rfl, rfl⟩)
    · by_cases h2 : c < 2048
      · rw [Sp.size_2 (by omega) h2]
        have a1 : 128 ≤ c := by omega
        clear h0 h1
        go_enter Tryd.func20, Tryd.ntmps20
        go_wp2
        all_goals (go_ret; exact ⟨rfl, rfl⟩)
      · by_cases h3 : c < 65536
        · rw [Sp.size_3 (by omega) h3 (by omega)]
          have a1 : 2048 ≤ c := by omega
          by_cases h4 : c < 55296
          · clear h0 h1 h2
            go_enter Tryd.func20, Tryd.ntmps20
            go_wp2
            all_goals (go_ret; exact ⟨rfl, rfl⟩)
          · have a2 : 57344 ≤ c := by omega
            clear h0 h1 h2 h4
            go_enter Tryd.func20, Tryd.ntmps20
            go_wp2
            all_goals (go_ret; exact ⟨rfl, rfl⟩)
        · rw [Sp.size_4 (by omega) (by omega)]
          have a1 : 65536 ≤ c := by omega
          have a2 : c ≤ 1114111 := by omega
          clear h0 h1 h2 h3
          go_enter Tryd.func20, Tryd.ntmps20
          go_wp2
          all_goals (go_ret; exact ⟨rfl, rfl⟩)

def markOf (n : Nat) : Int := if n = 2 then 192 else if n = 3 then 224 else if n = 4 then 240 else 0

theorem mark1 (w : World) : Calls Tryd.prog 21 #[.int .i64 1] w fun e w' => e = .returned (.int .u8 0) ∧ w = w' := by
  go_enter Tryd.func21, Tryd.ntmps21
  go_wp2
  go_ret
  exact ⟨rfl, rfl⟩
theorem mark2 (w : World) : Calls Tryd.prog 21 #[.int .i64 2] w fun e w' => e = .returned (.int .u8 192) ∧ w = w' := by
  go_enter Tryd.func21, Tryd.ntmps21
  go_wp2
  go_ret
  exact ⟨rfl, rfl⟩
theorem mark3 (w : World) : Calls Tryd.prog 21 #[.int .i64 3] w fun e w' => e = .returned (.int .u8 224) ∧ w = w' := by
  go_enter Tryd.func21, Tryd.ntmps21
  go_wp2
  go_ret
  exact ⟨rfl, rfl⟩
theorem mark4 (w : World) : Calls Tryd.prog 21 #[.int .i64 4] w fun e w' => e = .returned (.int .u8 240) ∧ w = w' := by
  go_enter Tryd.func21, Tryd.ntmps21
  go_wp2
  go_ret
  exact ⟨rfl, rfl⟩


/-- how many ones a byte begins with -/
def ones (b : Nat) : Int := if b < 128 then 0 else if b < 192 then 1 else if b < 224 then 2 else if b < 240 then 3 else if b < 248 then 4 else if b < 252 then 5 else if b < 254 then 6 else if b < 255 then 7 else 8
theorem ones_all : ∀ b : Fin 256, 8 - (Lib.bitLen (255 - b.val) : Int) = ones b.val := by decide +kernel
theorem ones_at (b : Int) (h0 : 0 ≤ b) (h : b ≤ 255) : 8 - (Lib.bitLen (255 - b).toNat : Int) = ones b.toNat := by
  have := ones_all ⟨b.toNat, by omega⟩
  rw [← this]
  congr 3
  simp only
  omega

theorem xor_all : ∀ b : Fin 256, bits BinOp.xor IntKind.u8 IntKind.u8.max (b.val : Int) = 255 - (b.val : Int) := by decide +kernel
theorem xor_at (b : Int) (h0 : 0 ≤ b) (h : b ≤ 255) : bits BinOp.xor IntKind.u8 IntKind.u8.max b = 255 - b := by
  have := xor_all ⟨b.toNat, by omega⟩
  simp only at this
  rw [show ((b.toNat : Nat) : Int) = b from by omega] at this
  exact this

theorem ann_ones (b : Nat) : (ones b = 0 → Sp.ann b = 1) ∧ (ones b = 2 → Sp.ann b = 2) ∧ (ones b = 3 → Sp.ann b = 3) ∧ (ones b = 4 → Sp.ann b = 4) ∧ (¬ ones b = 0 → ¬ ones b = 2 → ¬ ones b = 3 → ¬ ones b = 4 → Sp.ann b = 0) := by
  unfold ones Sp.ann
  by_cases h1 : b < 128
  · simp [h1]
  · by_cases h2 : b < 192
    · simp [h1, h2]
    · by_cases h3 : b < 224
      · simp [h1, h2, h3]
      · by_cases h4 : b < 240
        · simp [h1, h2, h3, h4]
        · by_cases h5 : b < 248
          · simp [h1, h2, h3, h4, h5]
          · simp [h1, h2, h3, h4, h5]
            by_cases h6 : b < 252
            · simp [h6]
            · by_cases h7 : b < 254
              · simp [h6, h7]
              · by_cases h8 : b < 255
                · simp [h6, h7, h8]
                · simp [h6, h7, h8]

set_option maxHeartbeats 400000 in
set_option maxRecDepth 100000 in
theorem announced_any (b : Int) (w : World) (hb0 : 0 ≤ b) (hb1 : b ≤ 255) :
    Calls Tryd.prog 23 #[.int .u8 b] w fun e w' => e = .returned (.int .i64 (Sp.ann b.toNat)) ∧ w = w' := by
  have ho := ones_at b hb0 hb1
  have Ho := Lib.hid ho
  clear ho
  have hsg : IntKind.u8.signed = false := rfl
  go_enter Tryd.func23, Tryd.ntmps23
  go_wp2_with fail
  rw [xor_at b hb0 hb1]
  refine (Tryd.bits_LeadingZeros8 _ _ (by omega) (by omega)).mono ?_
  rintro e w' ⟨rfl, rfl⟩
  rw [Ho.out]
  go_wp2_with fail
  all_goals (simp only [beq_iff_eq, beq_eq_false_iff_ne, ne_eq] at *)
  all_goals go_ret
  all_goals exact ⟨ret_i64 (by have A := ann_ones b.toNat; omega), rfl⟩
end Go.Proofs.YtmodaefcipchpaaDoor
