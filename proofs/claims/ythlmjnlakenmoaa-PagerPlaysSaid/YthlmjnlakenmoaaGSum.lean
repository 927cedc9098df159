/-
  Which numbers a page may have; the sum of bytes, made by a closure over a variable of the call's own.
-/
import Derived.Test.YthlmjnlakenmoaaGMem
namespace Go.Proofs.Ythlmjnlakenmoaa
open Go.RowKit
set_option maxRecDepth 100000


theorem isNumber_any (w : World) (n : Int) : Calls Try.prog 74 #[.int .i64 n] w fun e w' => e = .returned (.bool (decide (0 ≤ n ∧ n ≤ 16383))) ∧ w = w' := by
  by_cases h0 : 0 ≤ n
  · by_cases h1 : n ≤ 16383
    all_goals
      go_enter Try.func74, Try.ntmps74
      go_wp2
      go_ret
      exact ⟨ret_bool (by simp <;> omega), rfl⟩
  · have h1 : decide (0 ≤ n) = false := by simpa using h0
    go_enter Try.func74, Try.ntmps74
    go_wp2
    go_ret
    exact ⟨ret_bool (by simp <;> omega), rfl⟩

theorem step_int (s : Nat) (c : UInt8) (h : s < 18446744073709551616) : IntKind.u64.wrap (bits .xor .u64 (s : Int) (c.toNat : Int) * 1099511628211) = (Pg.step s c : Int) := by
  have hc := c.toNat_lt
  rw [bits_xor_u64_nat s c.toNat h (Nat.lt_of_lt_of_le hc (by decide)), IntKind.wrap_u64]
  unfold Pg.step
  omega

set_option maxHeartbeats 400000 in
theorem add_any (w : World) (p s : Nat) (c : UInt8) (hs : s < 18446744073709551616) (hc : w.cell? ⟨p, 0, none⟩ = some (.int .u64 (s : Int))) (hf : w.frozen? ⟨p, 0, none⟩ = false) :
    Calls Try.prog 81 #[.int .u8 (c.toNat : Int), .pointer (some ⟨p, 0, none⟩)] w fun e w' => e = .returned (.tuple #[]) ∧ w' = w.setCell ⟨p, 0, none⟩ (.int .u64 (Pg.step s c : Int)) := by
  have hc1 := c.toNat_lt
  have hst := step_int s c hs
  have Hst := Lib.hid hst
  clear hst
  go_enter Try.func81, Try.ntmps81
  go_wp2_with fail
  go_end0
  exact ⟨rfl, by rw [Hst.out]⟩

/-- behind k bytes -/
def SumRel (w : World) (l : List UInt8) (k : Nat) (wr : World) : Prop := Has wr w.heap.size 119 #[.int .u64 (Pg.sum (l.take k) : Int)] ∧ Below w.heap.size w wr
theorem SumRel.next {w wr : World} {l : List UInt8} {k : Nat} (h : SumRel w l k wr) (hk : k < l.length) : SumRel w l (k + 1) (wr.setCell ⟨w.heap.size, 0, none⟩ (.int .u64 (Pg.step (Pg.sum (l.take k)) l[k] : Int))) := by
  refine ⟨?_, h.2.setCell (Nat.le_refl _) _⟩
  have := h.1.set 0 (.int .u64 (Pg.step (Pg.sum (l.take k)) l[k] : Int))
  rw [List.take_succ_eq_append_getElem hk, Pg.sum_snoc]
  exact this
set_option maxHeartbeats 800000 in
theorem sum_any (w : World) (A : Option Addr) (l : List UInt8) (c : Nat) (h : Rd w w.heap.size A l) :
    Calls Try.prog 80 #[.slice A l.length c] w fun e w' => e = .returned (.int .u64 (Pg.sum l : Int)) ∧ Below w.heap.size w w' := by
  have hm := h.1
  have H := Lib.hid h
  clear h
  have hmf : ∀ (fn : Fn) (first cap : Array Value) (w : World), (Instr.makeFunc fn first cap).run Try.prog w = .ok (.func fn first cap) w := fun _ _ _ _ => rfl
  go_enter Try.func80, Try.ntmps80
  go_wp2_with fail
  go_loopw [10] (fun i wr => ∃ k : Nat, k ≤ l.length ∧ i = .int .i64 k ∧ SumRel w l k wr) (fun i _ => l.length - (intOf i).toNat)
  case atStart => exact ⟨0, by omega, rfl, Has.of_alloc _ _ _, (Below.refl _ _).alloc (Nat.le_refl _) _⟩
  case round =>
    rename_i wr _
    obtain ⟨k, hk, rfl, hr⟩ := hrel
    have hcell := hr.1.cell 0
    have hfz := hr.1.free 0
    have hcell : wr.cell? ⟨w.heap.size, 0, none⟩ = some (.int .u64 (Pg.sum (l.take k) : Int)) := hcell
    have HR := Lib.hid hr
    clear hr
    by_cases hlt : k < l.length
    · obtain ⟨g, o, rfl, hg, hc⟩ := (H.out.below HR.out.2).at_ hlt
      unfold byt at hc
      have hadd := add_any wr w.heap.size (Pg.sum (l.take k)) l[k] (Pg.sum_lt _) hcell hfz
      have Hadd := Lib.hid hadd
      clear hadd
      go_wp2_with (go_at_call 81; refine Hadd.out.mono ?_; rintro e w2 ⟨rfl, rfl⟩)
      go_roundw
      case rel => exact ⟨k + 1, by omega, by go_num, HR.out.next hlt⟩
      case measure => simp [intOf]; omega
    · have hkl : k = l.length := by omega
      subst hkl
      go_wp2_with fail
      go_ret
      exact ⟨rfl, HR.out.2⟩
end Go.Proofs.Ythlmjnlakenmoaa
