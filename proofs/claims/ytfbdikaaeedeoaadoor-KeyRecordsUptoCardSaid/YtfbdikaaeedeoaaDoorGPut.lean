/-
  A number is written over bytes, the highest byte first.
-/
import Derived.Test.YtfbdikaaeedeoaaDoorGSum
namespace Go.Proofs.YtfbdikaaeedeoaaDoor
open Go.RowKit
set_option maxRecDepth 100000

theorem be_cons (k v : Nat) : Pg.be (k + 1) v = UInt8.ofNat (v / 256 ^ k % 256) :: Pg.be k v := by
  induction k generalizing v with
  | zero => simp [Pg.be]
  | succ k ih =>
    rw [Pg.be, ih, Pg.be, List.cons_append, Nat.div_div_eq_div_mul, Nat.pow_succ, Nat.mul_comm]

/-- behind k rounds, of n -/
def PutCells (cs : Array Value) (o n v k : Nat) : Array Value := (cs.toList.take (o + (n - k)) ++ bytCells (Pg.be k v) ++ cs.toList.drop (o + n)).toArray
theorem putCells_zero (cs : Array Value) (o n v : Nat) : PutCells cs o n v 0 = cs := by
  simp [PutCells, Pg.be, bytCells]
theorem putCells_next (cs : Array Value) (o n v k : Nat) (hk : k < n) (ho : o + n ≤ cs.size) (u : Value) (hu : u = byt (UInt8.ofNat (v / 256 ^ k % 256))) :
    (PutCells cs o n v k).setIfInBounds (o + (n - 1 - k)) u = PutCells cs o n v (k + 1) := by
  subst hu
  have hl : (cs.toList.take (o + (n - (k + 1)))).length = o + (n - (k + 1)) := by rw [List.length_take, Array.length_toList]; omega
  have e : cs.toList.take (o + (n - k)) = cs.toList.take (o + (n - (k + 1))) ++ [cs.toList[o + (n - (k + 1))]'(by rw [Array.length_toList]; omega)] := by
    rw [show o + (n - k) = o + (n - (k + 1)) + 1 by omega, List.take_succ_eq_append_getElem]
  unfold PutCells
  rw [List.setIfInBounds_toArray, e, be_cons]
  congr 1
  rw [show o + (n - 1 - k) = (cs.toList.take (o + (n - (k + 1)))).length + 0 by rw [hl]; omega]
  simp only [List.append_assoc]
  rw [List.set_append_right _ _ (by omega)]
  simp [bytCells]
theorem putCells_size (cs : Array Value) (o n v k : Nat) (hk : k ≤ n) (ho : o + n ≤ cs.size) : (PutCells cs o n v k).size = cs.size := by
  simp [PutCells, bytCells, Pg.be_length]
  omega

structure PutRel (w : World) (g : Nat) (t : TypeId) (cs : Array Value) (o n v k : Nat) (wr : World) : Prop where
  has : Has wr g t (PutCells cs o n v k)
  fr : Fr (oneB g) w wr
  size : wr.heap.size = w.heap.size
theorem PutRel.next {w wr : World} {g : Nat} {t : TypeId} {cs : Array Value} {o n v k : Nat} (h : PutRel w g t cs o n v k wr) (hk : k < n) (ho : o + n ≤ cs.size) (u : Value) (hu : u = byt (UInt8.ofNat (v / 256 ^ k % 256))) :
    PutRel w g t cs o n v (k + 1) (wr.setCell ⟨g, o + (n - 1 - k), none⟩ u) := by
  refine ⟨?_, h.fr.put u, by simpa using h.size⟩
  have := h.has.set (o + (n - 1 - k)) u
  rwa [putCells_next cs o n v k hk ho u hu] at this

theorem put_next_v {v k x : Nat} (h : v / 256 ^ k = x) : Value.int IntKind.u64 ((x : Int) / 256) = .int .u64 ((v / 256 ^ (k + 1) : Nat) : Int) := by
  rw [Nat.pow_succ, ← Nat.div_div_eq_div_mul, h]
  rfl
theorem put_next_u {v k x : Nat} (h : v / 256 ^ k = x) : Value.int IntKind.u8 ((x : Int) % 256) = byt (UInt8.ofNat (v / 256 ^ k % 256)) := by
  rw [h, byt, UInt8.toNat_ofNat', Nat.mod_eq_of_lt (a := x % 256) (Nat.mod_lt _ (by decide))]
  rfl
end Go.Proofs.YtfbdikaaeedeoaaDoor
