/-
  What the document's Number answers.
-/
import Derived.Test.YtmodaefcipchpaaDoorWorks
import Derived.Test.YtmodaefcipchpaaDoorMathNames
import Derived.Laws.BitsAllLaws
namespace Go.Proofs.YtmodaefcipchpaaDoor
open Go.RowKit

def nd (u : Nat) : List UInt8 := if u = 0 then [] else Lib.decDigits u
theorem nd_zero : nd 0 = [] := rfl
theorem nd_step (u : Nat) (h : 0 < u) : nd u = nd (u / 10) ++ [UInt8.ofNat (48 + u % 10)] := by
  unfold nd
  rw [if_neg (by omega), Lib.decDigits]
  by_cases h' : u < 10
  · rw [dif_pos h', if_pos (by omega), show u % 10 = u by omega]; rfl
  · rw [dif_neg h', if_neg (by omega)]
theorem dF_len' : ∀ (k u : Nat), (dF k u).length ≤ k + 1
  | 0, u => by simp [dF]
  | k + 1, u => by
    unfold dF
    by_cases h : u < 10
    · rw [if_pos h]; simp
    · rw [if_neg h, List.length_append]; have := dF_len' k (u / 10); simp; omega
theorem dec_len (u : Nat) (h : u ≤ 9223372036854775808) : (Lib.decDigits u).length ≤ 19 := by
  rw [dF_eq 18 u (by omega)]; exact dF_len' 18 u
theorem num_app (b : Nat) (t : ByteArray) : (strOfNums [(b : Int)] ++ t).data.toList = UInt8.ofNat b :: t.data.toList := by
  simp [strOfNums]
theorem flip_all (b : Nat) (hb : b < 18446744073709551616) : 18446744073709551615 ^^^ b = 18446744073709551615 - b := by
  have h := congrArg BitVec.toNat (BitVec.allOnes_xor (x := BitVec.ofNat 64 b))
  simp only [BitVec.toNat_xor, BitVec.toNat_allOnes, BitVec.toNat_not, BitVec.toNat_ofNat] at h
  rw [Nat.mod_eq_of_lt (by simpa using hb)] at h
  simpa using h
theorem u64_flip (b : Nat) (hb : b < 18446744073709551616) : bits .xor .u64 IntKind.u64.max (b : Int) = 18446744073709551615 - (b : Int) := by
  have e : IntKind.u64.max = ((18446744073709551615 : Nat) : Int) := by decide
  rw [e, u64_xor_nat _ b (by decide) hb, flip_all b hb]
  omega
theorem joined (a : List UInt8) (t : ByteArray) : (⟨a.toArray⟩ : ByteArray) ++ t = ⟨(a ++ t.data.toList).toArray⟩ := by
  apply ByteArray.ext
  apply Array.ext'
  simp
theorem round_num (U x : Nat) (t : ByteArray) (w wr : World) (o : Obj) (hp : 0 < x) (hx : x ≤ U) (he : Lib.decDigits U = nd x ++ t.data.toList) (hb : Below w.heap.size w wr) :
    (∃ x_1 t_1, Value.int IntKind.u64 ((x : Int) / 10) = Value.int IntKind.u64 (x_1 : Nat) ∧ Value.string (strOfNums [48 + (x : Int) % 10] ++ t) = Value.string t_1 ∧ x_1 ≤ U ∧ Lib.decDigits U = nd x_1 ++ t_1.data.toList ∧ Below w.heap.size w (wr.alloc o)) ∧
    (intOf (Value.int IntKind.u64 ((x : Int) / 10))).toNat < (intOf (Value.int IntKind.u64 (x : Int))).toNat := by
  refine ⟨⟨x / 10, strOfNums [48 + (x : Int) % 10] ++ t, congrArg (Value.int .u64) (by omega), rfl, by omega, ?_, hb.alloc hb.size _⟩, by simp [intOf]; omega⟩
  rw [he, nd_step x hp, show (48 + (x : Int) % 10) = ((48 + x % 10 : Nat) : Int) by omega, num_app, List.append_assoc]
  rfl

set_option maxHeartbeats 1600000 in
set_option maxRecDepth 100000 in
theorem rnumber_pos (n : Int) (w : World) (h0 : 0 < n) (h1 : n ≤ 9223372036854775807) :
    Calls Tryd.prog 16 #[.int .i64 n] w fun e w' => e = .returned (.string ⟨(Lib.itoa n).toArray⟩) ∧ Below w.heap.size w w' := by
  obtain ⟨U, rfl⟩ : ∃ U : Nat, n = U := ⟨n.toNat, by omega⟩
  have hz : ((U : Int) == 0) = false := by rw [beq_eq_false_iff_ne]; omega
  have hu1 : 0 < U := by omega
  have hu2 : U ≤ 9223372036854775808 := by omega
  have kc1 := fun (w : World) (a : Int) (cap : Nat) (t : TypeId) => conv1 w a cap t
  go_enter Tryd.func16, Tryd.ntmps16
  go_wp2_with fail
  go_loopw [3, 5] (fun u v wr => ∃ (x : Nat) (t : ByteArray), u = .int .u64 x ∧ v = .string t ∧ x ≤ U ∧ Lib.decDigits U = nd x ++ t.data.toList ∧ Below w.heap.size w wr) (fun u _ _ => (intOf u).toNat)
  case atStart => exact ⟨U, ⟨#[]⟩, by first | rfl | exact congrArg (Value.int .u64) (by omega), rfl, Nat.le_refl _, by unfold nd; rw [if_neg (by omega)]; simp, Below.refl _ _⟩
  case round =>
    obtain ⟨x, t, rfl, rfl, hx, he, hb⟩ := hrel
    have hl := dec_len U (by omega)
    rw [he, List.length_append] at hl
    have hts : t.data.toList.length = t.size := Array.length_toList
    have hadd : ((1 + t.size : Nat) : Int) ≤ 9223372036854775807 := by omega
    have He := Lib.hid he
    have Hb := Lib.hid hb
    clear he hb hl hts
    by_cases hp : 0 < x
    · have hpi : (0 : Int) < (x : Int) := by omega
      have hone : ∀ a : Int, (strOfNums [a]).size = 1 := fun a => by rw [strOfNums_size]; rfl
      go_wp2_with fail
      exact round_num U x t w wr _ hp hx He.out Hb.out
    · obtain rfl : x = 0 := by omega
      have e : Lib.itoa (U : Int) = [] ++ t.data.toList := by
        unfold Lib.itoa
        rw [if_neg (by omega), Int.toNat_natCast, He.out, nd_zero]
      go_wp2_with fail
      go_ret
      exact ⟨by rw [e, ← joined]; rfl, Hb.out⟩

set_option maxHeartbeats 1600000 in
set_option maxRecDepth 100000 in
theorem rnumber_neg (n : Int) (w : World) (h0 : n < 0) (h1 : -9223372036854775808 ≤ n) :
    Calls Tryd.prog 16 #[.int .i64 n] w fun e w' => e = .returned (.string ⟨(Lib.itoa n).toArray⟩) ∧ Below w.heap.size w w' := by
  obtain ⟨U, rfl⟩ : ∃ U : Nat, n = -(U : Int) := ⟨n.natAbs, by omega⟩
  have hz : ((-(U : Int)) == 0) = false := by rw [beq_eq_false_iff_ne]; omega
  have hu1 : 0 < U := by omega
  have hu2 : U ≤ 9223372036854775808 := by omega
  have hw : IntKind.u64.wrap (-(U : Int)) = 18446744073709551616 - (U : Int) := by rw [IntKind.wrap_u64]; omega
  have hx : bits .xor .u64 IntKind.u64.max (18446744073709551616 - (U : Int)) = (U : Int) - 1 := by
    rw [show (18446744073709551616 - (U : Int)) = ((18446744073709551616 - U : Nat) : Int) by omega, u64_flip _ (by omega)]; omega
  have hy : IntKind.u64.wrap (1 + ((U : Int) - 1)) = (U : Int) := by rw [IntKind.wrap_u64]; omega
  have kc1 := fun (w : World) (a : Int) (cap : Nat) (t : TypeId) => conv1 w a cap t
  go_enter Tryd.func16, Tryd.ntmps16
  go_wp2_with fail
  go_loopw [3, 5] (fun u v wr => ∃ (x : Nat) (t : ByteArray), u = .int .u64 x ∧ v = .string t ∧ x ≤ U ∧ Lib.decDigits U = nd x ++ t.data.toList ∧ Below w.heap.size w wr) (fun u _ _ => (intOf u).toNat)
  case atStart => exact ⟨U, ⟨#[]⟩, by first | rfl | exact congrArg (Value.int .u64) (by omega), rfl, Nat.le_refl _, by unfold nd; rw [if_neg (by omega)]; simp, Below.refl _ _⟩
  case round =>
    obtain ⟨x, t, rfl, rfl, hx, he, hb⟩ := hrel
    have hl := dec_len U (by omega)
    rw [he, List.length_append] at hl
    have hts : t.data.toList.length = t.size := Array.length_toList
    have hadd : ((1 + t.size : Nat) : Int) ≤ 9223372036854775807 := by omega
    have He := Lib.hid he
    have Hb := Lib.hid hb
    clear he hb hl hts
    by_cases hp : 0 < x
    · have hpi : (0 : Int) < (x : Int) := by omega
      have hone : ∀ a : Int, (strOfNums [a]).size = 1 := fun a => by rw [strOfNums_size]; rfl
      go_wp2_with fail
      exact round_num U x t w wr _ hp hx He.out Hb.out
    · obtain rfl : x = 0 := by omega
      have e : Lib.itoa (-(U : Int)) = [45] ++ t.data.toList := by
        unfold Lib.itoa
        rw [if_pos (by omega), Int.natAbs_neg, Int.natAbs_natCast, He.out, nd_zero]; rfl
      go_wp2_with fail
      go_ret
      exact ⟨by rw [e, ← joined]; rfl, Hb.out⟩

theorem rnumber_any (n : Int) (w : World) (h0 : -9223372036854775808 ≤ n) (h1 : n ≤ 9223372036854775807) :
    Calls Tryd.prog 16 #[.int .i64 n] w fun e w' => e = .returned (.string ⟨(Lib.itoa n).toArray⟩) ∧ Below w.heap.size w w' := by
  rcases (by omega : n = 0 ∨ 0 < n ∨ n < 0) with rfl | h | h
  · have e : Lib.itoa 0 = [48] := by rw [itoa_c _ (by decide) (by decide)]; decide +kernel
    rw [e]
    go_enter Tryd.func16, Tryd.ntmps16
    go_wp2_with fail
    all_goals (go_ret; exact ⟨rfl, Below.refl _ _⟩)
  · exact rnumber_pos n w h h1
  · exact rnumber_neg n w h h0
end Go.Proofs.YtmodaefcipchpaaDoor
