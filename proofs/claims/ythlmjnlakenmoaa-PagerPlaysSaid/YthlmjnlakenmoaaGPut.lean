/-
  A number is written over bytes, the highest byte first.
-/
import Derived.Test.YthlmjnlakenmoaaGSum
namespace Go.Proofs.Ythlmjnlakenmoaa
open Go.RowKit
set_option maxRecDepth 100000

theorem be_cons (k v : Nat) : Pg.be (k + 1) v = UInt8.ofNat (v / 256 ^ k % 256) :: Pg.be k v := by
  induction k generalizing v with
  | zero => simp [Pg.be]
  | succ k ih =>
    rw [Pg.be, ih, Pg.be, List.cons_append, Nat.div_div_eq_div_mul, Nat.pow_succ, Nat.mul_comm]

/-- behind k rounds, of n -/
def PutCells (cs : Array Value) (o n v k : Nat) : Array Value := (cs.toList.take (o + (n - k)) ++ bytCells (Pg.be k v) ++ cs.toList.drop (o + n)).toArray
theorem putCells_zero (cs : Array Value) (o n v : Nat) : PutCells cs o n v 0 = cs := by
  simp [PutCells, Pg.be, bytCells]
theorem putCells_next (cs : Array Value) (o n v k : Nat) (hk : k < n) (ho : o + n ≤ cs.size) (u : Value) (hu : u = byt (UInt8.ofNat (v / 256 ^ k % 256))) :
    (PutCells cs o n v k).setIfInBounds (o + (n - 1 - k)) u = PutCells cs o n v (k + 1) := by
  subst hu
  have hl : (cs.toList.take (o + (n - (k + 1)))).length = o + (n - (k + 1)) := by rw [List.length_take, Array.length_toList]; omega
  have e : cs.toList.take (o + (n - k)) = cs.toList.take (o + (n - (k + 1))) ++ [cs.toList[o + (n - (k + 1))]'(by rw [Array.length_toList]; omega)] := by
    rw [show o + (n - k) = o + (n - (k + 1)) + 1 by omega, List.take_succ_eq_append_getElem]
  unfold PutCells
  rw [List.setIfInBounds_toArray, e, be_cons]
  congr 1
  rw [show o + (n - 1 - k) = (cs.toList.take (o + (n - (k + 1)))).length + 0 by rw [hl]; omega]
  simp only [List.append_assoc]
  rw [List.set_append_right _ _ (by omega)]
  simp [bytCells]
theorem putCells_size (cs : Array Value) (o n v k : Nat) (hk : k ≤ n) (ho : o + n ≤ cs.size) : (PutCells cs o n v k).size = cs.size := by
  simp [PutCells, bytCells, Pg.be_length]
  omega

structure PutRel (w : World) (g : Nat) (t : TypeId) (cs : Array Value) (o n v k : Nat) (wr : World) : Prop where
  has : Has wr g t (PutCells cs o n v k)
  fr : Fr (oneB g) w wr
  size : wr.heap.size = w.heap.size
theorem PutRel.next {w wr : World} {g : Nat} {t : TypeId} {cs : Array Value} {o n v k : Nat} (h : PutRel w g t cs o n v k wr) (hk : k < n) (ho : o + n ≤ cs.size) (u : Value) (hu : u = byt (UInt8.ofNat (v / 256 ^ k % 256))) :
    PutRel w g t cs o n v (k + 1) (wr.setCell ⟨g, o + (n - 1 - k), none⟩ u) := by
  refine ⟨?_, h.fr.put u, by simpa using h.size⟩
  have := h.has.set (o + (n - 1 - k)) u
  rwa [putCells_next cs o n v k hk ho u hu] at this

theorem put_next_v {v k x : Nat} (h : v / 256 ^ k = x) : Value.int IntKind.u64 ((x : Int) / 256) = .int .u64 ((v / 256 ^ (k + 1) : Nat) : Int) := by
  rw [Nat.pow_succ, ← Nat.div_div_eq_div_mul, h]
  rfl
theorem put_next_u {v k x : Nat} (h : v / 256 ^ k = x) : Value.int IntKind.u8 ((x : Int) % 256) = byt (UInt8.ofNat (v / 256 ^ k % 256)) := by
  rw [h, byt, UInt8.toNat_ofNat', Nat.mod_eq_of_lt (a := x % 256) (Nat.mod_lt _ (by decide))]
  rfl
set_option maxHeartbeats 800000 in
theorem put_any (w : World) (g o n c : Nat) (t : TypeId) (cs : Array Value) (h : Has w g t cs) (ho : o + n ≤ cs.size) (hn : n ≤ 1000) (v : Nat) (hv : v < 18446744073709551616) :
    Calls Try.prog 79 #[.slice (some ⟨g, o, none⟩) n c, .int .u64 (v : Int)] w fun e w' => e = .returned (.tuple #[]) ∧ PutRel w g t cs o n v n w' := by
  have H := Lib.hid h
  clear h
  go_enter Try.func79, Try.ntmps79
  go_wp2_with fail
  go_loopw [1, 4] (fun x i wr => ∃ (k : Nat) (z : Int), k ≤ n ∧ z = (n : Int) - 1 - k ∧ i = .int .i64 z ∧ x = .int .u64 ((v / 256 ^ k : Nat) : Int) ∧ PutRel w g t cs o n v k wr) (fun _ i _ => (intOf i + 1).toNat)
  case atStart => exact ⟨0, _, by omega, by omega, rfl, by simp, by rw [putCells_zero]; exact H.out, Fr.refl _ _, rfl⟩
  case round =>
    rename_i wr
    obtain ⟨k, z, hk, hz, rfl, rfl, hr⟩ := hrel
    have HR := Lib.hid hr
    clear hr
    have hv1 : v / 256 ^ k < 18446744073709551616 := Nat.lt_of_le_of_lt (Nat.div_le_self _ _) hv
    generalize hx : v / 256 ^ k = x at *
    have HX := Lib.hid hx
    clear hx
    by_cases hlt : k < n
    · obtain ⟨j, hj⟩ : ∃ j : Nat, j = n - 1 - k := ⟨_, rfl⟩
      obtain rfl : z = (j : Int) := by omega
      have hjn : j < n := by omega
      have hsz : o + j < (PutCells cs o n v k).size := by rw [putCells_size cs o n v k hk ho]; omega
      have hcell := HR.out.has.cell (o + j)
      have hfz := HR.out.has.free (o + j)
      rw [Array.getElem?_eq_getElem hsz] at hcell
      have HJ := Lib.hid hj
      clear hj hz
      go_wp2_with fail
      go_roundw
      case rel => exact ⟨k + 1, _, by omega, by have := HJ.out; omega, rfl, put_next_v HX.out, by rw [HJ.out]; exact HR.out.next hlt ho _ (put_next_u HX.out)⟩
      case measure => (simp [intOf]) <;> omega
    · have hkl : k = n := by omega
      subst hkl
      obtain rfl : z = -1 := by omega
      clear hz
      go_wp2_with fail
      go_end0
      exact ⟨rfl, HR.out⟩

/-- the number v in the n bytes from o on of a block of bytes -/
theorem put_bytes (w : World) (g o n c : Nat) (t : TypeId) (L : List UInt8) (h : Has w g t (bytCells L).toArray) (ho : o + n ≤ L.length) (hn : n ≤ 1000) (v : Nat) (hv : v < 18446744073709551616) :
    Calls Try.prog 79 #[.slice (some ⟨g, o, none⟩) n c, .int .u64 (v : Int)] w fun e w' => e = .returned (.tuple #[]) ∧ Has w' g t (bytCells (lay L o (Pg.be n v))).toArray ∧ Fr (oneB g) w w' ∧ w'.heap.size = w.heap.size :=
  (put_any w g o n c t _ h (by simpa [bytCells] using ho) hn v hv).mono fun e w' ⟨he, hr⟩ => ⟨he, by
    have := hr.has
    unfold PutCells at this
    rw [Nat.sub_self, Nat.add_zero] at this
    rw [lay, bytCells_append, bytCells_append, Pg.be_length]
    simpa only [bytCells, List.map_take, List.map_drop] using this, hr.fr, hr.size⟩
end Go.Proofs.Ythlmjnlakenmoaa
