/-
  Bytes copied; a page's size; Encode and Decode.
-/
import Derived.Test.YthlmjnlakenmoaaGEq
import Derived.Deep.QuietTactic
import Derived.BigQuiet
namespace Go.Proofs.Ythlmjnlakenmoaa
open Go.RowKit
set_option maxRecDepth 100000

/-- a copy of l, in a block of its own -/
def CopyOf (w : World) (l : List UInt8) (e : Ending) (w' : World) : Prop :=
  e = .returned (.slice (some ⟨w.heap.size, 0, none⟩) l.length l.length) ∧ Has w' w.heap.size 5 (bytCells l).toArray ∧ Below w.heap.size w w'

/-- n bytes 0 -/
def zs (n : Nat) : List UInt8 := List.replicate n 0
theorem zs_len (n : Nat) : (zs n).length = n := List.length_replicate
theorem made_zs (n : Nat) : madeCells (Value.int .u8 0).cells (n * 1) = (bytCells (zs n)).toArray := by
  apply Array.toList_inj.1
  rw [Nat.mul_one]
  exact (toList_madeCells_one _ _).trans (by rw [bytCells, zs, List.map_replicate]; rfl)
theorem run_make_zs (w : World) (n : Nat) (hn : n ≤ 140737488355328) : (Instr.makeSlice 48 (.int .i64 n) (.int .i64 n)).run Try.prog w = .ok (.slice (some ⟨w.heap.size, 0, none⟩) n n) (w.alloc (.cells (bytCells (zs n)).toArray 5)) := by
  obtain ⟨i0, hi, hz0, hz1, hz2⟩ := info_parts inf_u8
  have := run_make (P := Try.prog) w _ _ i0 _ und_bytes hi hz0 .i64 .i64 (n : Int) n (by omega) (by omega) (by rw [hz2]; omega) (by omega)
  rw [hz1, Int.toNat_natCast, made_zs] at this
  exact this
theorem splice_all (l : List UInt8) : splice (bytCells (zs l.length)) 0 (bytCells l) = bytCells l := by
  rw [splice_lay, lay_zero, List.drop_eq_nil_of_le (by rw [zs_len]; omega), List.append_nil]

set_option maxHeartbeats 800000 in
theorem copied_any (w : World) (A : Option Addr) (l : List UInt8) (c : Nat) (h : Rd w w.heap.size A l) :
    Calls Try.prog 76 #[.slice A l.length c] w (CopyOf w l) := by
  have H := Lib.hid h
  have hm := h.1
  have hmk := fun w => run_make_zs w l.length hm
  clear h
  go_enter Try.func76, Try.ntmps76
  go_wp2_with (refine wpList_copy_splice rfl (.tmp 7) (.tmp 8) 48 48 rfl 5 und_bytes siz_u8 (some ⟨w.heap.size, 0, none⟩) A l.length l.length l.length c rfl rfl w.heap.size 0 (bytCells (zs l.length)) 5 (Has.of_alloc _ _ _) (bytCells l) (by rw [bytCells_len]; exact (Nat.min_self _).symm) (copy_src ((H.out.below ((Below.refl _ _).alloc (Nat.le_refl _) _))) _ _) (by rw [bytCells_len, bytCells_len, zs_len]; omega) (bytCells_one _) w.heap.size w ((Below.refl _ _).alloc (Nat.le_refl _) _) (Nat.le_refl _) ?_; intro w2 q2 B2; have Q2 : Hid (Has w2 w.heap.size 5 (bytCells l).toArray) := Lib.hid (by rw [splice_all] at q2; exact q2.out); have B2h := Lib.hid B2; clear q2 B2)
  go_ret
  exact ⟨rfl, Q2.out, B2h.out⟩

theorem ofInt_i64 (a : Nat) (ha : a < 9223372036854775808) : (BitVec.ofInt 64 (a : Int)).toNat = a := by
  rw [BitVec.ofInt_natCast, BitVec.toNat_ofNat]; exact Nat.mod_eq_of_lt (by omega)
theorem i64_or_nat (a b : Nat) (ha : a < 9223372036854775808) (hb : b < 9223372036854775808) : bits .or .i64 (a : Int) (b : Int) = ((a ||| b : Nat) : Int) := by
  have hx : a ||| b < 2 ^ 63 := Nat.or_lt_two_pow (by omega) (by omega)
  show IntKind.i64.wrap ((BitVec.ofInt 64 (a : Int) ||| BitVec.ofInt 64 (b : Int)).toNat : Int) = _
  rw [BitVec.toNat_or, ofInt_i64 a ha, ofInt_i64 b hb, IntKind.wrap_i64]
  omega
theorem i64_xor_nat (a b : Nat) (ha : a < 9223372036854775808) (hb : b < 9223372036854775808) : bits .xor .i64 (a : Int) (b : Int) = ((a ^^^ b : Nat) : Int) := by
  have hx : a ^^^ b < 2 ^ 63 := Nat.xor_lt_two_pow (by omega) (by omega)
  show IntKind.i64.wrap ((BitVec.ofInt 64 (a : Int) ^^^ BitVec.ofInt 64 (b : Int)).toNat : Int) = _
  rw [BitVec.toNat_xor, ofInt_i64 a ha, ofInt_i64 b hb, IntKind.wrap_i64]
  omega
theorem u8_cat (a b : UInt8) : bits .or .i64 ((a.toNat : Int) * 256) (b.toNat : Int) = ((a.toNat * 256 + b.toNat : Nat) : Int) := by
  have h1 := a.toNat_lt
  have h2 := b.toNat_lt
  have e : a.toNat * 256 + b.toNat = a.toNat * 256 ||| b.toNat := by
    have := Nat.two_pow_add_eq_or_of_lt (i := 8) h2 a.toNat
    rw [show 2 ^ 8 = 256 from rfl, Nat.mul_comm 256] at this
    exact this
  rw [e]
  have := i64_or_nat (a.toNat * 256) b.toNat (by omega) (by omega)
  rw [show ((a.toNat * 256 : Nat) : Int) = (a.toNat : Int) * 256 by omega] at this
  exact this
set_option maxHeartbeats 800000 in
theorem size_any (w : World) (g : Nat) (a b : UInt8) (ha : w.cell? ⟨g, 8, none⟩ = some (byt a)) (hb : w.cell? ⟨g, 9, none⟩ = some (byt b)) :
    Calls Try.prog 78 #[.pointer (some ⟨g, 0, none⟩)] w fun e w' => e = .returned (.int .i64 ((a.toNat * 256 + b.toNat : Nat) : Int)) ∧ ∃ k, w' = w.drewN k := by
  unfold byt at ha hb
  have h1 := a.toNat_lt
  have h2 := b.toNat_lt
  go_enter Try.func78, Try.ntmps78
  go_wp2_with fail
  go_quiet (fail)
  all_goals
    go_wp2_with fail
    go_ret
    exact ⟨ret_int (u8_cat a b), _, rfl⟩

theorem encode_bad (w : World) (n : Int) (A : Option Addr) (k c : Nat) (hk : k ≤ 140737488355328) (h : ¬ (0 ≤ n ∧ n ≤ 16383) ∨ 502 < k) :
    Calls Try.prog 66 #[.int .i64 n, .slice A k c] w fun e w' => e = .returned (.tuple #[.slice none 0 0, .int .i64 1]) ∧ w = w' := by
  have hn := isNumber_any w n
  by_cases h0 : 0 ≤ n ∧ n ≤ 16383
  · have h1 : 502 < k := by rcases h with h | h; exact absurd h0 h; exact h
    have h2 : (502 : Int) < (k : Int) := by omega
    rw [decide_eq_true h0] at hn
    have Hn := Lib.hid hn
    clear hn h h0
    go_enter Try.func66, Try.ntmps66
    go_wp2_with (go_at_call 74; refine Hn.out.mono ?_; rintro e w' ⟨rfl, rfl⟩)
    go_ret2
    exact ⟨rfl, rfl⟩
  · rw [decide_eq_false h0] at hn
    have Hn := Lib.hid hn
    clear hn h h0
    go_enter Try.func66, Try.ntmps66
    go_wp2_with (go_at_call 74; refine Hn.out.mono ?_; rintro e w' ⟨rfl, rfl⟩)
    go_ret2
    exact ⟨rfl, rfl⟩

/-- bytes in a block of their own, and no error -/
def Gives (w : World) (l : List UInt8) (e : Ending) (w' : World) : Prop :=
  ∃ g, e = .returned (.tuple #[.slice (some ⟨g, 0, none⟩) l.length l.length, .int .i64 0]) ∧ Has w' g 5 (bytCells l).toArray ∧ w.heap.size ≤ g ∧ Below w.heap.size w w'

set_option maxHeartbeats 800000 in
theorem encode_ok (w : World) (n : Nat) (hn : n ≤ 16383) (A : Option Addr) (l : List UInt8) (c : Nat) (hl : l.length ≤ 502) (h : Rd w w.heap.size A l) :
    Calls Try.prog 66 #[.int .i64 n, .slice A l.length c] w (Gives w (Pg.made n l)) := by
  have hnum := isNumber_any w n
  rw [decide_eq_true ⟨by omega, by omega⟩] at hnum
  have Hn := Lib.hid hnum
  have hmd := made_any w n hn A l c hl h
  have Hm := Lib.hid hmd
  have hz := zer_of inf_page
  have hml := Pg.made_length n l hl
  have hcl : (bytCells (Pg.made n l)).length = 512 := by rw [bytCells_len]; exact hml
  have HC := Lib.hid hcl
  have HL := Lib.hid hml
  clear hnum hmd h hml hcl
  go_enter Try.func66, Try.ntmps66
  go_wp2_with (go_at_call 74; refine Hn.out.mono ?_; rintro e w' ⟨rfl, rfl⟩)
  refine Hm.out.mono ?_
  rintro e w1 ⟨rfl, hb⟩
  have Hb := Lib.hid hb
  clear hb
  go_wp2_with (refine arm_fill rfl 121 (.tmp 6) (.tmp 17) rfl w1 (bytCells (Pg.made n l)) rfl rfl 121 zero512 rfl (by rw [siz_page, HC.out]) (by rw [HC.out, zero512_size]) (bytCells_one _) ?_)
  have hq : Has (w1.alloc (.cells (bytCells (Pg.made n l)).toArray 121)) w1.heap.size 121 (bytCells (Pg.made n l)).toArray := Has.of_alloc _ _ _
  have hrd : Rd (w1.alloc (.cells (bytCells (Pg.made n l)).toArray 121)) (w1.alloc (.cells (bytCells (Pg.made n l)).toArray 121)).heap.size (some ⟨w1.heap.size, 0, none⟩) (Pg.made n l) :=
    Rd.of_has hq (by rw [List.drop_zero, HL.out, ← HC.out, List.take_length]) (by rw [HL.out]; omega)
  have hcp := copied_any _ _ _ 512 hrd
  rw [HL.out] at hcp
  refine hcp.mono ?_
  rintro e w2 ⟨rfl, hg, hb2⟩
  have hsz : (w1.alloc (.cells (bytCells (Pg.made n l)).toArray 121)).heap.size = w1.heap.size + 1 := by simp
  rw [hsz] at hg
  have HG := Lib.hid hg
  clear hsz
  have HB2 : Hid (Below w.heap.size w w2) := Lib.hid ((Hb.out.alloc Hb.out.size _).trans (hb2.mono (by have := Hb.out.size; simp; omega)))
  have hge := Hb.out.size
  clear hq hrd hcp hg hb2
  go_wp2_with fail
  go_ret2
  exact ⟨w1.heap.size + 1, by rw [HL.out]; rfl, HG.out, by omega, HB2.out⟩
end Go.Proofs.Ythlmjnlakenmoaa
