/-
  What unit answers.
-/
import Derived.Test.YtmodaefcipchpaaDoorMathUq
import Derived.Test.YtmodaefcipchpaaDoorShelf
import Derived.Test.YtmodaefcipchpaaDoorAt
namespace Go.Proofs.YtmodaefcipchpaaDoor
open Go.RowKit

def unitV : Option (Nat × Nat) → Value
  | some (c, n) => .tuple #[.int .u8 c, .int .i64 n]
  | none => .tuple #[.int .u8 0, .int .i64 0]

theorem index_any (b : Int) (w : World) (h0 : 0 ≤ b) (h1 : b < 256) : Calls Tryd.prog 29 #[.string (ByteArray.mk #[48, 49, 50, 51, 52, 53, 54, 55, 56, 57, 97, 98, 99, 100, 101, 102]), .int .u8 b] w fun e w' =>
    e = .returned (.int .i64 (if hexv b.toNat < 16 then (hexv b.toNat : Int) else -1)) ∧ w' = w := by
  refine (Tryd.strings_IndexByte _ b w).mono ?_
  rintro e w' ⟨rfl, rfl⟩
  refine ⟨?_, rfl⟩
  have := digits_all ⟨b.toNat, by omega⟩
  exact congrArg (fun x => Ending.returned (.int .i64 x)) this

/-- the digit's number, as IndexByte tells it -/
def ixv (b : UInt8) : Int := if hexv b.toNat < 16 then (hexv b.toNat : Int) else -1
theorem index_byte (b : UInt8) (w : World) : Calls Tryd.prog 29 #[.string (ByteArray.mk #[48, 49, 50, 51, 52, 53, 54, 55, 56, 57, 97, 98, 99, 100, 101, 102]), .int .u8 (b.toNat : Int)] w fun e w' =>
    e = .returned (.int .i64 (ixv b)) ∧ w' = w := by
  refine (index_any b.toNat w (by omega) (by have := UInt8.toNat_lt b; omega)).mono ?_
  rintro e w' ⟨rfl, rfl⟩
  exact ⟨rfl, rfl⟩

theorem or_all : ∀ m n : Fin 16, bits BinOp.or IntKind.i64 ((m.val : Int) * 16) (n.val : Int) = (m.val : Int) * 16 + (n.val : Int) := by decide +kernel
theorem or_at (m n : Nat) (hm : m < 16) (hn : n < 16) : bits BinOp.or IntKind.i64 ((m : Int) * 16) (n : Int) = (m : Int) * 16 + (n : Int) := or_all ⟨m, hm⟩ ⟨n, hn⟩
theorem ixv_in (b : UInt8) (h : hexv b.toNat < 16) : ixv b = (hexv b.toNat : Int) := by unfold ixv; rw [if_pos h]
theorem ixv_out (b : UInt8) (h : ¬ hexv b.toNat < 16) : ixv b = -1 := by unfold ixv; rw [if_neg h]

set_option maxHeartbeats 1600000 in
set_option maxRecDepth 100000 in
theorem unit_plain (t : ByteArray) (K : Nat) (w : World) (hs : t.size ≤ maxLen) (h1 : 1 ≤ t.size) (hK : w.heap[K]? = some (.cells kindsArr 37 (0, 0))) (hb : (t[0]'(by omega)).toNat ≠ 92) :
    Calls Tryd.prog 22 #[.string t, .pointer (some ⟨K, 0, none⟩)] w fun e w' => e = .returned (unitV (if 3 ≤ Sp.kind (t[0]'(by omega)).toNat then some ((t[0]'(by omega)).toNat, 1) else none)) ∧ Below w.heap.size w w' := by
  unfold maxLen at hs
  have hlt8 : ((t[0]'(by omega)).toNat : Int) < 256 := by have := UInt8.toNat_lt (t[0]'(by omega)); omega
  have hlt0 : (0 : Int) ≤ ((t[0]'(by omega)).toNat : Int) := by omega
  have hc : w.cell? ⟨K, (t[0]'(by omega)).toNat, none⟩ = some (.int .u8 (Sp.kind (t[0]'(by omega)).toNat)) := by
    rw [cell_of_row _ _ _ _ _ _ hK]; exact kinds_at _ (by omega)
  have f0 : (((t[0]'(by omega)).toNat : Int) != 92) = true := by rw [bne_iff_ne]; omega
  clear hb
  by_cases hk : 3 ≤ Sp.kind (t[0]'(by omega)).toNat
  · rw [if_pos hk]
    have hk' : (3 : Int) ≤ (Sp.kind (t[0]'(by omega)).toNat : Int) := by omega
    go_enter Tryd.func22, Tryd.ntmps22
    go_wp2_with fail
    go_quiet (fail)
    go_wp2_with fail
    go_ret2
    exact ⟨rfl, below_drewN (Below.refl _ _) _⟩
  · rw [if_neg hk]
    have hk' : (Sp.kind (t[0]'(by omega)).toNat : Int) < 3 := by omega
    go_enter Tryd.func22, Tryd.ntmps22
    go_wp2_with fail
    go_quiet (fail)
    go_wp2_with fail
    go_ret2
    exact ⟨rfl, below_drewN (Below.refl _ _) _⟩

set_option maxHeartbeats 1600000 in
set_option maxRecDepth 100000 in
theorem unit_short (t : ByteArray) (K : Nat) (w : World) (hs : t.size ≤ maxLen) (h1 : 1 ≤ t.size) (hle : t.size ≤ 1) (h92 : (t[0]'(by omega)).toNat = 92) :
    Calls Tryd.prog 22 #[.string t, .pointer (some ⟨K, 0, none⟩)] w fun e w' => e = .returned (unitV none) ∧ Below w.heap.size w w' := by
  unfold maxLen at hs
  have e0 : ((t[0]'(by omega)).toNat : Int) = 92 := by omega
  have f0 : (((t[0]'(by omega)).toNat : Int) != 92) = false := by rw [e0]; rfl
  clear e0
  have d1 : decide (1 < t.size) = false := by simp; omega
  have d1' : decide ((1 : Int) < (t.size : Int)) = false := by simp; omega
  have d3 : decide ((3 : Int) < (t.size : Int)) = false := by simp; omega
  have d3' : decide (3 < t.size) = false := by simp; omega
  clear h92
  go_enter Tryd.func22, Tryd.ntmps22
  go_wp2_with fail
  go_quiet (fail)
  go_wp2_with fail
  go_ret2
  exact ⟨rfl, below_drewN (Below.refl _ _) _⟩

set_option maxHeartbeats 1600000 in
set_option maxRecDepth 100000 in
theorem unit_n (t : ByteArray) (K : Nat) (w : World) (hs : t.size ≤ maxLen) (h1 : 1 < t.size) (h92 : (t[0]'(by omega)).toNat = 92) (h110 : (t[1]'(by omega)).toNat = 110) :
    Calls Tryd.prog 22 #[.string t, .pointer (some ⟨K, 0, none⟩)] w fun e w' => e = .returned (unitV (some (10, 2))) ∧ Below w.heap.size w w' := by
  unfold maxLen at hs
  have e0 : ((t[0]'(by omega)).toNat : Int) = 92 := by omega
  have f0 : (((t[0]'(by omega)).toNat : Int) != 92) = false := by rw [e0]; rfl
  clear e0
  have hlt8 : ((t[1]'(by omega)).toNat : Int) < 256 := by have := UInt8.toNat_lt (t[1]'(by omega)); omega
  have hlt0 : (0 : Int) ≤ ((t[1]'(by omega)).toNat : Int) := by omega
  have f1 : (((t[1]'(by omega)).toNat : Int) == 110) = true := by rw [beq_iff_eq]; omega
  clear h92 h110
  go_enter Tryd.func22, Tryd.ntmps22
  go_wp2_with fail
  go_ret2
  exact ⟨rfl, Below.refl _ _⟩

set_option maxHeartbeats 1600000 in
set_option maxRecDepth 100000 in
theorem unit_marked (t : ByteArray) (K : Nat) (w : World) (hs : t.size ≤ maxLen) (h1 : 1 < t.size) (h92 : (t[0]'(by omega)).toNat = 92) (hK : w.heap[K]? = some (.cells kindsArr 37 (0, 0))) (h110 : (t[1]'(by omega)).toNat ≠ 110) (hk : Sp.kind (t[1]'(by omega)).toNat = 2) :
    Calls Tryd.prog 22 #[.string t, .pointer (some ⟨K, 0, none⟩)] w fun e w' => e = .returned (unitV (some ((t[1]'(by omega)).toNat, 2))) ∧ Below w.heap.size w w' := by
  unfold maxLen at hs
  have e0 : ((t[0]'(by omega)).toNat : Int) = 92 := by omega
  have f0 : (((t[0]'(by omega)).toNat : Int) != 92) = false := by rw [e0]; rfl
  clear e0
  have hlt8 : ((t[1]'(by omega)).toNat : Int) < 256 := by have := UInt8.toNat_lt (t[1]'(by omega)); omega
  have hlt0 : (0 : Int) ≤ ((t[1]'(by omega)).toNat : Int) := by omega
  have hc : w.cell? ⟨K, (t[1]'(by omega)).toNat, none⟩ = some (.int .u8 (Sp.kind (t[1]'(by omega)).toNat)) := by
    rw [cell_of_row _ _ _ _ _ _ hK]; exact kinds_at _ (by omega)
  have f1 : (((t[1]'(by omega)).toNat : Int) == 110) = false := by rw [beq_eq_false_iff_ne]; omega
  have f2 : ((Sp.kind (t[1]'(by omega)).toNat : Int) == 2) = true := by rw [beq_iff_eq]; omega
  clear h92 h110 hk
  go_enter Tryd.func22, Tryd.ntmps22
  go_wp2_with fail
  go_quiet (fail)
  go_wp2_with fail
  go_ret2
  exact ⟨rfl, below_drewN (Below.refl _ _) _⟩

set_option maxHeartbeats 1600000 in
set_option maxRecDepth 100000 in
theorem unit_few (t : ByteArray) (K : Nat) (w : World) (hs : t.size ≤ maxLen) (h1 : 1 < t.size) (h3 : t.size ≤ 3) (h92 : (t[0]'(by omega)).toNat = 92) (hK : w.heap[K]? = some (.cells kindsArr 37 (0, 0))) (h110 : (t[1]'(by omega)).toNat ≠ 110) (hk : Sp.kind (t[1]'(by omega)).toNat ≠ 2) :
    Calls Tryd.prog 22 #[.string t, .pointer (some ⟨K, 0, none⟩)] w fun e w' => e = .returned (unitV none) ∧ Below w.heap.size w w' := by
  unfold maxLen at hs
  have e0 : ((t[0]'(by omega)).toNat : Int) = 92 := by omega
  have f0 : (((t[0]'(by omega)).toNat : Int) != 92) = false := by rw [e0]; rfl
  clear e0
  have hlt8 : ((t[1]'(by omega)).toNat : Int) < 256 := by have := UInt8.toNat_lt (t[1]'(by omega)); omega
  have hlt0 : (0 : Int) ≤ ((t[1]'(by omega)).toNat : Int) := by omega
  have hc : w.cell? ⟨K, (t[1]'(by omega)).toNat, none⟩ = some (.int .u8 (Sp.kind (t[1]'(by omega)).toNat)) := by
    rw [cell_of_row _ _ _ _ _ _ hK]; exact kinds_at _ (by omega)
  have f1 : (((t[1]'(by omega)).toNat : Int) == 110) = false := by rw [beq_eq_false_iff_ne]; omega
  have f2 : ((Sp.kind (t[1]'(by omega)).toNat : Int) == 2) = false := by rw [beq_eq_false_iff_ne]; omega
  clear h92 h110 hk
  go_enter Tryd.func22, Tryd.ntmps22
  go_wp2_with fail
  go_quiet (fail)
  go_wp2_with fail
  go_ret2
  exact ⟨rfl, below_drewN (Below.refl _ _) _⟩

set_option maxHeartbeats 1600000 in
set_option maxRecDepth 100000 in
theorem unit_other (t : ByteArray) (K : Nat) (w : World) (hs : t.size ≤ maxLen) (h3 : 3 < t.size) (h92 : (t[0]'(by omega)).toNat = 92) (hK : w.heap[K]? = some (.cells kindsArr 37 (0, 0))) (h110 : (t[1]'(by omega)).toNat ≠ 110) (hk : Sp.kind (t[1]'(by omega)).toNat ≠ 2) (h120 : (t[1]'(by omega)).toNat ≠ 120) :
    Calls Tryd.prog 22 #[.string t, .pointer (some ⟨K, 0, none⟩)] w fun e w' => e = .returned (unitV none) ∧ Below w.heap.size w w' := by
  unfold maxLen at hs
  have e0 : ((t[0]'(by omega)).toNat : Int) = 92 := by omega
  have f0 : (((t[0]'(by omega)).toNat : Int) != 92) = false := by rw [e0]; rfl
  clear e0
  have hlt8 : ((t[1]'(by omega)).toNat : Int) < 256 := by have := UInt8.toNat_lt (t[1]'(by omega)); omega
  have hlt0 : (0 : Int) ≤ ((t[1]'(by omega)).toNat : Int) := by omega
  have hc : w.cell? ⟨K, (t[1]'(by omega)).toNat, none⟩ = some (.int .u8 (Sp.kind (t[1]'(by omega)).toNat)) := by
    rw [cell_of_row _ _ _ _ _ _ hK]; exact kinds_at _ (by omega)
  have f1 : (((t[1]'(by omega)).toNat : Int) == 110) = false := by rw [beq_eq_false_iff_ne]; omega
  have f2 : ((Sp.kind (t[1]'(by omega)).toNat : Int) == 2) = false := by rw [beq_eq_false_iff_ne]; omega
  have f3 : (((t[1]'(by omega)).toNat : Int) == 120) = false := by rw [beq_eq_false_iff_ne]; omega
  clear h92 h110 hk h120
  go_enter Tryd.func22, Tryd.ntmps22
  go_wp2_with fail
  go_quiet (fail)
  go_wp2_with fail
  go_ret2
  exact ⟨rfl, below_drewN (Below.refl _ _) _⟩

set_option maxHeartbeats 1600000 in
set_option maxRecDepth 100000 in
theorem unit_x (t : ByteArray) (K : Nat) (w : World) (hs : t.size ≤ maxLen) (h3 : 3 < t.size) (h92 : (t[0]'(by omega)).toNat = 92) (hK : w.heap[K]? = some (.cells kindsArr 37 (0, 0))) (h120 : (t[1]'(by omega)).toNat = 120) (X Y : Nat) (hX : hexv (t[2]'(by omega)).toNat = X) (hY : hexv (t[3]'(by omega)).toNat = Y) (hx : X < 16) (hy : Y < 16) (hz : Sp.kind (X * 16 + Y) = 0) :
    Calls Tryd.prog 22 #[.string t, .pointer (some ⟨K, 0, none⟩)] w fun e w' => e = .returned (unitV (some (X * 16 + Y, 4))) ∧ Below w.heap.size w w' := by
  unfold maxLen at hs
  have e0 : ((t[0]'(by omega)).toNat : Int) = 92 := by omega
  have f0 : (((t[0]'(by omega)).toNat : Int) != 92) = false := by rw [e0]; rfl
  clear e0
  have hk : Sp.kind (t[1]'(by omega)).toNat ≠ 2 := by rw [h120]; decide
  have hlt8 : ((t[1]'(by omega)).toNat : Int) < 256 := by have := UInt8.toNat_lt (t[1]'(by omega)); omega
  have hlt0 : (0 : Int) ≤ ((t[1]'(by omega)).toNat : Int) := by omega
  have hc : w.cell? ⟨K, (t[1]'(by omega)).toNat, none⟩ = some (.int .u8 (Sp.kind (t[1]'(by omega)).toNat)) := by
    rw [cell_of_row _ _ _ _ _ _ hK]; exact kinds_at _ (by omega)
  have f1 : (((t[1]'(by omega)).toNat : Int) == 110) = false := by rw [beq_eq_false_iff_ne]; omega
  have f2 : ((Sp.kind (t[1]'(by omega)).toNat : Int) == 2) = false := by rw [beq_eq_false_iff_ne]; omega
  have f3 : (((t[1]'(by omega)).toNat : Int) == 120) = true := by rw [beq_iff_eq]; omega
  have hi2 : (2 : Int) < (t.size : Int) := by omega
  have hi3 : (3 : Int) < (t.size : Int) := by omega
  have hlt82 : ((t[2]'(by omega)).toNat : Int) < 256 := by have := UInt8.toNat_lt (t[2]'(by omega)); omega
  have hlt83 : ((t[3]'(by omega)).toNat : Int) < 256 := by have := UInt8.toNat_lt (t[3]'(by omega)); omega
  clear h92 h120 hk
  have x2 := ixv_in (t[2]'(by omega)) (by rw [hX]; exact hx)
  have x3 := ixv_in (t[3]'(by omega)) (by rw [hY]; exact hy)
  rw [hX] at x2
  rw [hY] at x3
  have eo := or_at X Y hx hy
  have hxi : (X : Int) < 16 := by omega
  have hyi : (Y : Int) < 16 := by omega
  clear hX hY
  have fz : ((Sp.kind (X * 16 + Y) : Int) == 0) = true := by rw [beq_iff_eq]; omega
  clear hz
  go_enter Tryd.func22, Tryd.ntmps22
  go_wp2_with fail
  go_quiet (fail)
  go_wp2_with fail
  generalize hw2 : World.drewN _ _ = w2
  have hb2 : Below w.heap.size w w2 := by rw [← hw2]; exact below_drewN (Below.refl _ _) _
  have hK2 : w2.heap[K]? = some (.cells kindsArr 37 (0, 0)) := by rw [← hw2]; exact hK
  have Hb2 := Lib.hid hb2
  clear hw2 hb2
  have hc2 : w2.cell? ⟨K, X * 16 + Y, none⟩ = some (.int .u8 (Sp.kind (X * 16 + Y))) := by
    rw [cell_of_row _ _ _ _ _ _ hK2]; exact kinds_at _ (by omega)
  clear hK2
  go_quiet ((go_at_call 29; exact Calls.quiet_of_same (index_byte _ _)))
  go_wp2_with fail
  go_ret2
  exact ⟨rfl, below_drewN Hb2.out _⟩

set_option maxHeartbeats 1600000 in
set_option maxRecDepth 100000 in
theorem unit_xplain (t : ByteArray) (K : Nat) (w : World) (hs : t.size ≤ maxLen) (h3 : 3 < t.size) (h92 : (t[0]'(by omega)).toNat = 92) (hK : w.heap[K]? = some (.cells kindsArr 37 (0, 0))) (h120 : (t[1]'(by omega)).toNat = 120) (X Y : Nat) (hX : hexv (t[2]'(by omega)).toNat = X) (hY : hexv (t[3]'(by omega)).toNat = Y) (hx : X < 16) (hy : Y < 16) (hz : Sp.kind (X * 16 + Y) ≠ 0) :
    Calls Tryd.prog 22 #[.string t, .pointer (some ⟨K, 0, none⟩)] w fun e w' => e = .returned (unitV none) ∧ Below w.heap.size w w' := by
  unfold maxLen at hs
  have e0 : ((t[0]'(by omega)).toNat : Int) = 92 := by omega
  have f0 : (((t[0]'(by omega)).toNat : Int) != 92) = false := by rw [e0]; rfl
  clear e0
  have hk : Sp.kind (t[1]'(by omega)).toNat ≠ 2 := by rw [h120]; decide
  have hlt8 : ((t[1]'(by omega)).toNat : Int) < 256 := by have := UInt8.toNat_lt (t[1]'(by omega)); omega
  have hlt0 : (0 : Int) ≤ ((t[1]'(by omega)).toNat : Int) := by omega
  have hc : w.cell? ⟨K, (t[1]'(by omega)).toNat, none⟩ = some (.int .u8 (Sp.kind (t[1]'(by omega)).toNat)) := by
    rw [cell_of_row _ _ _ _ _ _ hK]; exact kinds_at _ (by omega)
  have f1 : (((t[1]'(by omega)).toNat : Int) == 110) = false := by rw [beq_eq_false_iff_ne]; omega
  have f2 : ((Sp.kind (t[1]'(by omega)).toNat : Int) == 2) = false := by rw [beq_eq_false_iff_ne]; omega
  have f3 : (((t[1]'(by omega)).toNat : Int) == 120) = true := by rw [beq_iff_eq]; omega
  have hi2 : (2 : Int) < (t.size : Int) := by omega
  have hi3 : (3 : Int) < (t.size : Int) := by omega
  have hlt82 : ((t[2]'(by omega)).toNat : Int) < 256 := by have := UInt8.toNat_lt (t[2]'(by omega)); omega
  have hlt83 : ((t[3]'(by omega)).toNat : Int) < 256 := by have := UInt8.toNat_lt (t[3]'(by omega)); omega
  clear h92 h120 hk
  have x2 := ixv_in (t[2]'(by omega)) (by rw [hX]; exact hx)
  have x3 := ixv_in (t[3]'(by omega)) (by rw [hY]; exact hy)
  rw [hX] at x2
  rw [hY] at x3
  have eo := or_at X Y hx hy
  have hxi : (X : Int) < 16 := by omega
  have hyi : (Y : Int) < 16 := by omega
  clear hX hY
  have fz : ((Sp.kind (X * 16 + Y) : Int) == 0) = false := by rw [beq_eq_false_iff_ne]; omega
  clear hz
  go_enter Tryd.func22, Tryd.ntmps22
  go_wp2_with fail
  go_quiet (fail)
  go_wp2_with fail
  generalize hw2 : World.drewN _ _ = w2
  have hb2 : Below w.heap.size w w2 := by rw [← hw2]; exact below_drewN (Below.refl _ _) _
  have hK2 : w2.heap[K]? = some (.cells kindsArr 37 (0, 0)) := by rw [← hw2]; exact hK
  have Hb2 := Lib.hid hb2
  clear hw2 hb2
  have hc2 : w2.cell? ⟨K, X * 16 + Y, none⟩ = some (.int .u8 (Sp.kind (X * 16 + Y))) := by
    rw [cell_of_row _ _ _ _ _ _ hK2]; exact kinds_at _ (by omega)
  clear hK2
  go_quiet ((go_at_call 29; exact Calls.quiet_of_same (index_byte _ _)))
  go_wp2_with fail
  go_ret2
  exact ⟨rfl, below_drewN Hb2.out _⟩

set_option maxHeartbeats 1600000 in
set_option maxRecDepth 100000 in
theorem unit_xhigh (t : ByteArray) (K : Nat) (w : World) (hs : t.size ≤ maxLen) (h3 : 3 < t.size) (h92 : (t[0]'(by omega)).toNat = 92) (hK : w.heap[K]? = some (.cells kindsArr 37 (0, 0))) (h120 : (t[1]'(by omega)).toNat = 120) (hx : ¬ hexv (t[2]'(by omega)).toNat < 16) :
    Calls Tryd.prog 22 #[.string t, .pointer (some ⟨K, 0, none⟩)] w fun e w' => e = .returned (unitV none) ∧ Below w.heap.size w w' := by
  unfold maxLen at hs
  have e0 : ((t[0]'(by omega)).toNat : Int) = 92 := by omega
  have f0 : (((t[0]'(by omega)).toNat : Int) != 92) = false := by rw [e0]; rfl
  clear e0
  have hk : Sp.kind (t[1]'(by omega)).toNat ≠ 2 := by rw [h120]; decide
  have hlt8 : ((t[1]'(by omega)).toNat : Int) < 256 := by have := UInt8.toNat_lt (t[1]'(by omega)); omega
  have hlt0 : (0 : Int) ≤ ((t[1]'(by omega)).toNat : Int) := by omega
  have hc : w.cell? ⟨K, (t[1]'(by omega)).toNat, none⟩ = some (.int .u8 (Sp.kind (t[1]'(by omega)).toNat)) := by
    rw [cell_of_row _ _ _ _ _ _ hK]; exact kinds_at _ (by omega)
  have f1 : (((t[1]'(by omega)).toNat : Int) == 110) = false := by rw [beq_eq_false_iff_ne]; omega
  have f2 : ((Sp.kind (t[1]'(by omega)).toNat : Int) == 2) = false := by rw [beq_eq_false_iff_ne]; omega
  have f3 : (((t[1]'(by omega)).toNat : Int) == 120) = true := by rw [beq_iff_eq]; omega
  have hi2 : (2 : Int) < (t.size : Int) := by omega
  have hi3 : (3 : Int) < (t.size : Int) := by omega
  have hlt82 : ((t[2]'(by omega)).toNat : Int) < 256 := by have := UInt8.toNat_lt (t[2]'(by omega)); omega
  have hlt83 : ((t[3]'(by omega)).toNat : Int) < 256 := by have := UInt8.toNat_lt (t[3]'(by omega)); omega
  clear h92 h120 hk
  have x2 := ixv_out (t[2]'(by omega)) hx
  clear hx
  go_enter Tryd.func22, Tryd.ntmps22
  go_wp2_with fail
  go_quiet (fail)
  go_wp2_with fail
  generalize hw2 : World.drewN _ _ = w2
  have hb2 : Below w.heap.size w w2 := by rw [← hw2]; exact below_drewN (Below.refl _ _) _
  have hK2 : w2.heap[K]? = some (.cells kindsArr 37 (0, 0)) := by rw [← hw2]; exact hK
  have Hb2 := Lib.hid hb2
  clear hw2 hb2
  clear hK2
  go_quiet ((go_at_call 29; exact Calls.quiet_of_same (index_byte _ _)))
  go_wp2_with fail
  go_ret2
  exact ⟨rfl, below_drewN Hb2.out _⟩

set_option maxHeartbeats 1600000 in
set_option maxRecDepth 100000 in
theorem unit_xlow (t : ByteArray) (K : Nat) (w : World) (hs : t.size ≤ maxLen) (h3 : 3 < t.size) (h92 : (t[0]'(by omega)).toNat = 92) (hK : w.heap[K]? = some (.cells kindsArr 37 (0, 0))) (h120 : (t[1]'(by omega)).toNat = 120) (X : Nat) (hX : hexv (t[2]'(by omega)).toNat = X) (hx : X < 16) (hy : ¬ hexv (t[3]'(by omega)).toNat < 16) :
    Calls Tryd.prog 22 #[.string t, .pointer (some ⟨K, 0, none⟩)] w fun e w' => e = .returned (unitV none) ∧ Below w.heap.size w w' := by
  unfold maxLen at hs
  have e0 : ((t[0]'(by omega)).toNat : Int) = 92 := by omega
  have f0 : (((t[0]'(by omega)).toNat : Int) != 92) = false := by rw [e0]; rfl
  clear e0
  have hk : Sp.kind (t[1]'(by omega)).toNat ≠ 2 := by rw [h120]; decide
  have hlt8 : ((t[1]'(by omega)).toNat : Int) < 256 := by have := UInt8.toNat_lt (t[1]'(by omega)); omega
  have hlt0 : (0 : Int) ≤ ((t[1]'(by omega)).toNat : Int) := by omega
  have hc : w.cell? ⟨K, (t[1]'(by omega)).toNat, none⟩ = some (.int .u8 (Sp.kind (t[1]'(by omega)).toNat)) := by
    rw [cell_of_row _ _ _ _ _ _ hK]; exact kinds_at _ (by omega)
  have f1 : (((t[1]'(by omega)).toNat : Int) == 110) = false := by rw [beq_eq_false_iff_ne]; omega
  have f2 : ((Sp.kind (t[1]'(by omega)).toNat : Int) == 2) = false := by rw [beq_eq_false_iff_ne]; omega
  have f3 : (((t[1]'(by omega)).toNat : Int) == 120) = true := by rw [beq_iff_eq]; omega
  have hi2 : (2 : Int) < (t.size : Int) := by omega
  have hi3 : (3 : Int) < (t.size : Int) := by omega
  have hlt82 : ((t[2]'(by omega)).toNat : Int) < 256 := by have := UInt8.toNat_lt (t[2]'(by omega)); omega
  have hlt83 : ((t[3]'(by omega)).toNat : Int) < 256 := by have := UInt8.toNat_lt (t[3]'(by omega)); omega
  clear h92 h120 hk
  have x2 := ixv_in (t[2]'(by omega)) (by rw [hX]; exact hx)
  rw [hX] at x2
  have x3 := ixv_out (t[3]'(by omega)) hy
  clear hX hy
  go_enter Tryd.func22, Tryd.ntmps22
  go_wp2_with fail
  go_quiet (fail)
  go_wp2_with fail
  generalize hw2 : World.drewN _ _ = w2
  have hb2 : Below w.heap.size w w2 := by rw [← hw2]; exact below_drewN (Below.refl _ _) _
  have hK2 : w2.heap[K]? = some (.cells kindsArr 37 (0, 0)) := by rw [← hw2]; exact hK
  have Hb2 := Lib.hid hb2
  clear hw2 hb2
  clear hK2
  go_quiet ((go_at_call 29; exact Calls.quiet_of_same (index_byte _ _)))
  go_wp2_with fail
  go_ret2
  exact ⟨rfl, below_drewN Hb2.out _⟩
end Go.Proofs.YtmodaefcipchpaaDoor
