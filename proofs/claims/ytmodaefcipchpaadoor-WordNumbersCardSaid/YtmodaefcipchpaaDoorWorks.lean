/-
  What each statement asks first: 'works' answers true.
-/
import Derived.Test.YtmodaefcipchpaaDoorNum
import Derived.Test.YtmodaefcipchpaaDoorUtf
import Derived.Test.YtmodaefcipchpaaDoorUnqW
namespace Go.Proofs.YtmodaefcipchpaaDoor
open Go.RowKit

/-- the digits of a number of at most k + 1 of them -/
def dF : Nat → Nat → List UInt8
  | 0, u => [UInt8.ofNat (48 + u)]
  | k + 1, u => if u < 10 then [UInt8.ofNat (48 + u)] else dF k (u / 10) ++ [UInt8.ofNat (48 + u % 10)]
theorem dF_eq : ∀ (k u : Nat), u < 10 ^ (k + 1) → Lib.decDigits u = dF k u
  | 0, u, h => by rw [Lib.decDigits, dif_pos (by simpa using h)]; rfl
  | k + 1, u, h => by
    rw [Lib.decDigits]
    unfold dF
    by_cases h' : u < 10
    · rw [dif_pos h', if_pos h']
    · rw [dif_neg h', if_neg h', dF_eq k (u / 10) (by
        have : 10 ^ (k + 1 + 1) = 10 ^ (k + 1) * 10 := Nat.pow_succ 10 (k + 1)
        omega)]
theorem itoa_12 : Lib.itoa (-12) = [45, 49, 50] := by
  unfold Lib.itoa
  rw [if_pos (by decide), dF_eq 1 _ (by decide)]
  decide

theorem wk1 (w : World) (hL : Laid w) : Calls Tryd.prog 8 #[.string ⟨#[45, 49, 50]⟩] w fun e w' => e = .returned (.tuple #[.int .i64 (-12), .bool true]) ∧ Below w.heap.size w w' := by
  have h : Sp.parse [45, 49, 50] = some (-12) := by rw [← itoa_12]; exact Sp.parse_of _ (by decide) (by decide)
  have := parse_any ⟨#[45, 49, 50]⟩ w (by decide) hL
  rw [show (ByteArray.mk #[45, 49, 50]).data.toList = [45, 49, 50] from rfl, h] at this
  exact this
theorem wk2 (w : World) : Calls Tryd.prog 10 #[.int .i64 233] w fun e w' => e = .returned (.tuple #[.string ⟨#[195, 169]⟩, .bool true]) ∧ Below w.heap.size w w' := by
  have h1 : Sp.charBytes 233 = [195, 169] := by decide +kernel
  have h2 : Sp.charOk 233 = true := by decide +kernel
  have := char_any 233 w
  rw [h1, h2] at this
  exact this
theorem wk3 (w : World) : Calls Tryd.prog 13 #[.string ⟨#[97, 195, 169]⟩, .int .i64 1] w fun e w' => e = .returned (.tuple #[.int .i64 233, .int .i64 2, .bool true]) ∧ Below w.heap.size w w' := by
  have h : Sp.decAt ⟨#[97, 195, 169]⟩ 1 = some (233, 2) := by decide +kernel
  have := at_any ⟨#[97, 195, 169]⟩ 1 w (by decide)
  rw [h] at this
  exact this
theorem wk4 (w : World) : Calls Tryd.prog 12 #[.string ⟨#[34, 97, 92, 110, 34]⟩] w fun e w' => e = .returned (.tuple #[.string ⟨#[97, 10]⟩, .bool true]) ∧ Below w.heap.size w w' := by
  have h : Sp.unquote ⟨#[34, 97, 92, 110, 34]⟩ = some [97, 10] := by decide +kernel
  have := unq_any ⟨#[34, 97, 92, 110, 34]⟩ w (by decide)
  rw [h] at this
  exact this
theorem wk5 (w : World) : Calls Tryd.prog 7 #[.string ⟨#[97, 45, 49]⟩] w fun e w' => e = .returned (.bool true) ∧ Below w.heap.size w w' := by
  have h : Sp.nameB ⟨#[97, 45, 49]⟩ = true := by decide +kernel
  have := name_any ⟨#[97, 45, 49]⟩ w (by decide)
  rw [h] at this
  exact this
theorem wk6 (w : World) : Calls Tryd.prog 7 #[.string ⟨#[49, 97]⟩] w fun e w' => e = .returned (.bool false) ∧ Below w.heap.size w w' := by
  have h : Sp.nameB ⟨#[49, 97]⟩ = false := by decide +kernel
  have := name_any ⟨#[49, 97]⟩ w (by decide)
  rw [h] at this
  exact this
theorem wk7 (w : World) (hL : Laid w) : Calls Tryd.prog 9 #[.int .i64 (-12)] w fun e w' => e = .returned (.string ⟨#[45, 49, 50]⟩) ∧ Below w.heap.size w w' := by
  have := number_any (-12) w (by decide) (by decide) hL
  rw [itoa_12] at this
  exact this
theorem wk8 (w : World) : Calls Tryd.prog 11 #[.string ⟨#[97, 195, 169]⟩] w fun e w' => e = .returned (.bool true) ∧ Below w.heap.size w w' := by
  have h : Sp.utf8 ⟨#[97, 195, 169]⟩ = true := by decide +kernel
  have := utf_any ⟨#[97, 195, 169]⟩ w (by decide)
  rw [h] at this
  exact this
theorem wk9 (w : World) : Calls Tryd.prog 11 #[.string ⟨#[233]⟩] w fun e w' => e = .returned (.bool false) ∧ Below w.heap.size w w' := by
  have h : Sp.utf8 ⟨#[233]⟩ = false := by decide +kernel
  have := utf_any ⟨#[233]⟩ w (by decide)
  rw [h] at this
  exact this
theorem wk10 (w : World) : Calls Tryd.prog 14 #[.string ⟨#[97, 10]⟩] w fun e w' => e = .returned (.string ⟨#[34, 97, 92, 110, 34]⟩) ∧ Below w.heap.size w w' := by
  have h : strOfNums (Sp.quote ⟨#[97, 10]⟩) = ⟨#[34, 97, 92, 110, 34]⟩ := by decide +kernel
  have := quote_any ⟨#[97, 10]⟩ w (by decide)
  rw [h] at this
  exact this

set_option maxHeartbeats 1600000 in
set_option maxRecDepth 100000 in
theorem works_any (w : World) (hL : Laid w) : Calls Tryd.prog 6 #[] w fun e w' => e = .returned (.bool true) ∧ Below w.heap.size w w' := by
  have HL := Lib.hid hL
  clear hL
  go_enter Tryd.func6, Tryd.ntmps6
  go_wp2_with fail
  refine (wk1 _ HL.out).mono ?_
  rintro e w1 ⟨rfl, hb1⟩
  have Hb1 := Lib.hid hb1
  have hz1 := hb1.size
  clear hb1
  go_wp2_with fail
  refine (wk2 _).mono ?_
  rintro e w2 ⟨rfl, hb2⟩
  have Hb2 := Lib.hid (Hb1.out.trans (hb2.mono hz1))
  have hz2 := hb2.size
  clear hb2 Hb1
  go_wp2_with fail
  refine (wk3 _).mono ?_
  rintro e w3 ⟨rfl, hb3⟩
  have Hb3 := Lib.hid (Hb2.out.trans (hb3.mono (by omega)))
  have hz3 := hb3.size
  clear hb3 Hb2
  go_wp2_with fail
  refine (wk4 _).mono ?_
  rintro e w4 ⟨rfl, hb4⟩
  have Hb4 := Lib.hid (Hb3.out.trans (hb4.mono (by omega)))
  have hz4 := hb4.size
  clear hb4 Hb3
  go_wp2_with fail
  refine (wk5 _).mono ?_
  rintro e w5 ⟨rfl, hb5⟩
  have Hb5 := Lib.hid (Hb4.out.trans (hb5.mono (by omega)))
  have hz5 := hb5.size
  clear hb5 Hb4
  go_wp2_with fail
  refine (wk6 _).mono ?_
  rintro e w6 ⟨rfl, hb6⟩
  have Hb6 := Lib.hid (Hb5.out.trans (hb6.mono (by omega)))
  have hz6 := hb6.size
  clear hb6 Hb5
  have HL6 := Lib.hid (HL.out.below Hb6.out)
  go_wp2_with fail
  refine (wk7 _ HL6.out).mono ?_
  rintro e w7 ⟨rfl, hb7⟩
  have Hb7 := Lib.hid (Hb6.out.trans (hb7.mono (by omega)))
  have hz7 := hb7.size
  clear hb7 Hb6 HL6
  go_wp2_with fail
  refine (wk8 _).mono ?_
  rintro e w8 ⟨rfl, hb8⟩
  have Hb8 := Lib.hid (Hb7.out.trans (hb8.mono (by omega)))
  have hz8 := hb8.size
  clear hb8 Hb7
  go_wp2_with fail
  refine (wk9 _).mono ?_
  rintro e w9 ⟨rfl, hb9⟩
  have Hb9 := Lib.hid (Hb8.out.trans (hb9.mono (by omega)))
  have hz9 := hb9.size
  clear hb9 Hb8
  go_wp2_with fail
  refine (wk10 _).mono ?_
  rintro e w10 ⟨rfl, hb10⟩
  have Hb10 := Lib.hid (Hb9.out.trans (hb10.mono (by omega)))
  clear hb10 Hb9
  go_wp2_with fail
  go_ret
  exact ⟨rfl, Hb10.out⟩
end Go.Proofs.YtmodaefcipchpaaDoor
