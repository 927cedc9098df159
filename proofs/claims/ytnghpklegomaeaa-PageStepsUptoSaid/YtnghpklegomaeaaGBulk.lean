/-
  What the bound on the arguments gives: a slice is no longer than its bulk.
-/
import Derived.Test.YtnghpklegomaeaaRows
namespace Go.Proofs.Ytnghpklegomaeaa

theorem bulk_pos {H : Type} (d : DataW H) : 0 < Rows.uptoBulk d := by
  cases d with
  | lit l => cases l <;> simp [Rows.uptoBulk]
  | _ => simp [Rows.uptoBulk]
theorem bulk_len {H : Type} (l : List (DataW H)) : l.length ≤ Rows.uptoBulkAll l := by
  induction l with
  | nil => exact Nat.zero_le _
  | cons x r ih =>
    have := bulk_pos x
    simp only [Rows.uptoBulkAll, List.length_cons]
    omega
theorem bulk_slice {H : Type} {elems spare : List (DataW H)} {M : Nat} (h : Rows.uptoBulk (.slice elems spare) ≤ M) : elems.length ≤ M := by
  have := bulk_len elems
  simp only [Rows.uptoBulk] at h
  omega
end Go.Proofs.Ytnghpklegomaeaa
