/-
  Bytes copied; a page's size; Encode and Decode.
-/
import Derived.Test.YtfbdikaaeedeoaaDoorGEq
import Derived.Deep.QuietTactic
import Derived.BigQuiet
namespace Go.Proofs.YtfbdikaaeedeoaaDoor
open Go.RowKit
set_option maxRecDepth 100000

/-- a copy of l, in a block of its own -/
def CopyOf (w : World) (l : List UInt8) (e : Ending) (w' : World) : Prop :=
  e = .returned (.slice (some ⟨w.heap.size, 0, none⟩) l.length l.length) ∧ Has w' w.heap.size 5 (bytCells l).toArray ∧ Below w.heap.size w w'

/-- n bytes 0 -/
def zs (n : Nat) : List UInt8 := List.replicate n 0
theorem zs_len (n : Nat) : (zs n).length = n := List.length_replicate
theorem made_zs (n : Nat) : madeCells (Value.int .u8 0).cells (n * 1) = (bytCells (zs n)).toArray := by
  apply Array.toList_inj.1
  rw [Nat.mul_one]
  exact (toList_madeCells_one _ _).trans (by rw [bytCells, zs, List.map_replicate]; rfl)
theorem run_make_zs (w : World) (n : Nat) (hn : n ≤ 140737488355328) : (Instr.makeSlice 65 (.int .i64 n) (.int .i64 n)).run Tryd.prog w = .ok (.slice (some ⟨w.heap.size, 0, none⟩) n n) (w.alloc (.cells (bytCells (zs n)).toArray 5)) := by
  obtain ⟨i0, hi, hz0, hz1, hz2⟩ := info_parts inf_u8
  have := run_make (P := Tryd.prog) w _ _ i0 _ und_bytes hi hz0 .i64 .i64 (n : Int) n (by omega) (by omega) (by rw [hz2]; omega) (by omega)
  rw [hz1, Int.toNat_natCast, made_zs] at this
  exact this
theorem splice_all (l : List UInt8) : splice (bytCells (zs l.length)) 0 (bytCells l) = bytCells l := by
  rw [splice_lay, lay_zero, List.drop_eq_nil_of_le (by rw [zs_len]; omega), List.append_nil]

theorem ofInt_i64 (a : Nat) (ha : a < 9223372036854775808) : (BitVec.ofInt 64 (a : Int)).toNat = a := by
  rw [BitVec.ofInt_natCast, BitVec.toNat_ofNat]; exact Nat.mod_eq_of_lt (by omega)
theorem i64_or_nat (a b : Nat) (ha : a < 9223372036854775808) (hb : b < 9223372036854775808) : bits .or .i64 (a : Int) (b : Int) = ((a ||| b : Nat) : Int) := by
  have hx : a ||| b < 2 ^ 63 := Nat.or_lt_two_pow (by omega) (by omega)
  show IntKind.i64.wrap ((BitVec.ofInt 64 (a : Int) ||| BitVec.ofInt 64 (b : Int)).toNat : Int) = _
  rw [BitVec.toNat_or, ofInt_i64 a ha, ofInt_i64 b hb, IntKind.wrap_i64]
  omega
theorem i64_xor_nat (a b : Nat) (ha : a < 9223372036854775808) (hb : b < 9223372036854775808) : bits .xor .i64 (a : Int) (b : Int) = ((a ^^^ b : Nat) : Int) := by
  have hx : a ^^^ b < 2 ^ 63 := Nat.xor_lt_two_pow (by omega) (by omega)
  show IntKind.i64.wrap ((BitVec.ofInt 64 (a : Int) ^^^ BitVec.ofInt 64 (b : Int)).toNat : Int) = _
  rw [BitVec.toNat_xor, ofInt_i64 a ha, ofInt_i64 b hb, IntKind.wrap_i64]
  omega
theorem u8_cat (a b : UInt8) : bits .or .i64 ((a.toNat : Int) * 256) (b.toNat : Int) = ((a.toNat * 256 + b.toNat : Nat) : Int) := by
  have h1 := a.toNat_lt
  have h2 := b.toNat_lt
  have e : a.toNat * 256 + b.toNat = a.toNat * 256 ||| b.toNat := by
    have := Nat.two_pow_add_eq_or_of_lt (i := 8) h2 a.toNat
    rw [show 2 ^ 8 = 256 from rfl, Nat.mul_comm 256] at this
    exact this
  rw [e]
  have := i64_or_nat (a.toNat * 256) b.toNat (by omega) (by omega)
  rw [show ((a.toNat * 256 : Nat) : Int) = (a.toNat : Int) * 256 by omega] at this
  exact this
/-- bytes in a block of their own, and no error -/
def Gives (w : World) (l : List UInt8) (e : Ending) (w' : World) : Prop :=
  ∃ g, e = .returned (.tuple #[.slice (some ⟨g, 0, none⟩) l.length l.length, .int .i64 0]) ∧ Has w' g 5 (bytCells l).toArray ∧ w.heap.size ≤ g ∧ Below w.heap.size w w'

end Go.Proofs.YtfbdikaaeedeoaaDoor
