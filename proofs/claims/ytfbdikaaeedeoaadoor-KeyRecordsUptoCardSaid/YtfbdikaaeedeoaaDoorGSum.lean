/-
  Which numbers a page may have; the sum of bytes, made by a closure over a variable of the call's own.
-/
import Derived.Test.YtfbdikaaeedeoaaDoorGMem
namespace Go.Proofs.YtfbdikaaeedeoaaDoor
open Go.RowKit
set_option maxRecDepth 100000


theorem step_int (s : Nat) (c : UInt8) (h : s < 18446744073709551616) : IntKind.u64.wrap (bits .xor .u64 (s : Int) (c.toNat : Int) * 1099511628211) = (Pg.step s c : Int) := by
  have hc := c.toNat_lt
  rw [bits_xor_u64_nat s c.toNat h (Nat.lt_of_lt_of_le hc (by decide)), IntKind.wrap_u64]
  unfold Pg.step
  omega

/-- behind k bytes -/
def SumRel (w : World) (l : List UInt8) (k : Nat) (wr : World) : Prop := Has wr w.heap.size 73 #[.int .u64 (Pg.sum (l.take k) : Int)] ∧ Below w.heap.size w wr
theorem SumRel.next {w wr : World} {l : List UInt8} {k : Nat} (h : SumRel w l k wr) (hk : k < l.length) : SumRel w l (k + 1) (wr.setCell ⟨w.heap.size, 0, none⟩ (.int .u64 (Pg.step (Pg.sum (l.take k)) l[k] : Int))) := by
  refine ⟨?_, h.2.setCell (Nat.le_refl _) _⟩
  have := h.1.set 0 (.int .u64 (Pg.step (Pg.sum (l.take k)) l[k] : Int))
  rw [List.take_succ_eq_append_getElem hk, Pg.sum_snoc]
  exact this
end Go.Proofs.YtfbdikaaeedeoaaDoor
